package words_test

import (
	"strings"
	"testing"

	"furrow/api"
	"furrow/trial"
	"furrow/words"
)

// classNames are the names of the classes, in their order.
var classNames = []struct {
	class       api.Class
	short, long string
}{
	{api.L, "L", "Left_To_Right"},
	{api.R, "R", "Right_To_Left"},
	{api.AL, "AL", "Arabic_Letter"},
	{api.EN, "EN", "European_Number"},
	{api.ES, "ES", "European_Separator"},
	{api.ET, "ET", "European_Terminator"},
	{api.AN, "AN", "Arabic_Number"},
	{api.CS, "CS", "Common_Separator"},
	{api.NSM, "NSM", "Nonspacing_Mark"},
	{api.BN, "BN", "Boundary_Neutral"},
	{api.B, "B", "Paragraph_Separator"},
	{api.S, "S", "Segment_Separator"},
	{api.WS, "WS", "White_Space"},
	{api.ON, "ON", "Other_Neutral"},
	{api.LRE, "LRE", "Left_To_Right_Embedding"},
	{api.LRO, "LRO", "Left_To_Right_Override"},
	{api.RLE, "RLE", "Right_To_Left_Embedding"},
	{api.RLO, "RLO", "Right_To_Left_Override"},
	{api.PDF, "PDF", "Pop_Directional_Format"},
	{api.LRI, "LRI", "Left_To_Right_Isolate"},
	{api.RLI, "RLI", "Right_To_Left_Isolate"},
	{api.FSI, "FSI", "First_Strong_Isolate"},
	{api.PDI, "PDI", "Pop_Directional_Isolate"},
}

var sideNames = []struct {
	side         api.Side
	letter, long string
}{
	{api.None, "n", "None"},
	{api.Opens, "o", "Open"},
	{api.Closes, "c", "Close"},
}

// classByLoose and sideByLoose are whose names have which loose form.
func classByLoose() map[string]api.Class {
	out := map[string]api.Class{}
	for _, n := range classNames {
		out[looseOf(n.short)], out[looseOf(n.long)] = n.class, n.class
	}
	return out
}

func sideByLoose() map[string]api.Side {
	out := map[string]api.Side{}
	for _, n := range sideNames {
		out[looseOf(n.letter)], out[looseOf(n.long)] = n.side, n.side
	}
	return out
}

// dressed are texts that are alike to name: in capitals and in small letters, each blank, low line and hyphen at each place, and several of them.
func dressed(name string) []string {
	out := []string{name, strings.ToUpper(name), strings.ToLower(name), strings.ReplaceAll(name, "_", ""), strings.ReplaceAll(name, "_", "-"), strings.ReplaceAll(name, "_", " ")}
	mixed := []byte(name)
	for i := range mixed {
		if i%2 == 0 {
			mixed[i] = strings.ToUpper(name)[i]
		} else {
			mixed[i] = strings.ToLower(name)[i]
		}
	}
	out = append(out, string(mixed))
	for _, sign := range append([]rune{'_', '-'}, blanks...) {
		for at := range len(name) + 1 {
			out = append(out, name[:at]+string(sign)+name[at:])
		}
		out = append(out, strings.ToLower(strings.Join(strings.Split(" "+name+" ", ""), string(sign))))
	}
	return out
}

// spoilt are texts that are like name but for a character: one less, one more, another one; with letters that look alike, ends of lines, wrong bytes.
func spoilt(name string) []string {
	out := []string{name + name, name + " " + name}
	for at := range len(name) + 1 {
		for _, more := range []string{"a", "L", "0", "\n", "\r", "\x00", ".", "\xff", "\xc2", fffd, "\u200b", "\u00c9", "\u0130", "\u017f", "\u212a", "\u2010", "\uff2c"} {
			out = append(out, name[:at]+more+name[at:])
			if at < len(name) {
				out = append(out, name[:at]+more+name[at+1:])
			}
		}
		if at < len(name) {
			out = append(out, name[:at]+name[at+1:], name[:at], name[at:])
		}
	}
	return out
}

// 5.3
func TestShortAndLong(t *testing.T) {
	if len(classNames) != api.Classes {
		t.Fatal(len(classNames))
	}
	for i, n := range classNames {
		if n.class != api.Class(i+1) {
			t.Errorf("%s is %d", n.short, n.class)
		}
		if short, why := words.Short(n.class); short != n.short || why != api.OK {
			t.Errorf("Short of %d: %q, %v", n.class, short, why)
		}
		if long, why := words.Long(n.class); long != n.long || why != api.OK {
			t.Errorf("Long of %d: %q, %v", n.class, long, why)
		}
	}
	for c := range 256 {
		if c >= 1 && c <= 23 {
			continue
		}
		if short, why := words.Short(api.Class(c)); short != "" || why != api.ErrArg {
			t.Errorf("Short of %d: %q, %v", c, short, why)
		}
		if long, why := words.Long(api.Class(c)); long != "" || why != api.ErrArg {
			t.Errorf("Long of %d: %q, %v", c, long, why)
		}
	}
}

// 5.3
func TestClass(t *testing.T) {
	for _, c := range []struct {
		name string
		want api.Class
	}{
		{"al", api.AL}, {"arabic letter", api.AL}, {"A_L", api.AL}, {"arabic", 0}, {"", 0},
		{" ", 0}, {"\u3000\t", 0}, {"_", 0}, {"- _", 0}, {"\u0085\u00a0\u1680", 0},
		{"l", api.L}, {"\u3000L\u00a0", api.L}, {"L\n", 0}, {"\rL", 0}, {"L\xff", 0}, {"\xc2L", 0}, {"L" + fffd, 0},
		{"W S", api.WS}, {"WSP", 0}, {"LR", 0}, {"LRM", 0}, {"0", 0}, {"1", 0}, {"none", 0}, {"o", 0},
		{"e\u017f", 0}, {"Nonspacing_Mar\u212a", 0}, {"LR\u0130", 0}, {"\uff2c", 0},
		{"Non_Spacing_Mark", api.NSM}, {"Class_L", 0}, {"L;", 0}, {"L#", 0},
	} {
		wantWhy := api.OK
		if c.want == 0 {
			wantWhy = api.ErrNoClass
		}
		if got, why := words.Class(c.name); got != c.want || why != wantWhy {
			t.Errorf("Class of %q: %d, %v", c.name, got, why)
		}
	}
}

// 5.3, 5.7: all that is alike to a name.
func TestClassOfDressedNames(t *testing.T) {
	for _, n := range classNames {
		for _, name := range append(dressed(n.short), dressed(n.long)...) {
			if got, why := words.Class(name); got != n.class || why != api.OK {
				t.Errorf("Class of %q: %d, %v", name, got, why)
			}
		}
	}
}

func checkClass(t *testing.T, known map[string]api.Class, name string) {
	t.Helper()
	want, is := known[looseOf(name)]
	wantWhy := api.OK
	if !is {
		wantWhy = api.ErrNoClass
	}
	if got, why := words.Class(name); got != want || why != wantWhy {
		t.Errorf("Class of %q: %d, %v", name, got, why)
	}
}

// 5.3: names with a character less, more or other; and all short names of letters.
func TestClassOfOtherNames(t *testing.T) {
	known := classByLoose()
	if len(known) != 2*api.Classes {
		t.Fatal(len(known))
	}
	for _, n := range classNames {
		for _, name := range append(spoilt(n.short), spoilt(n.long)...) {
			checkClass(t, known, name)
		}
	}
	letters := strings.Split("abcdefghijklmnopqrstuvwxyz", "")
	for name := range trial.Joined(letters, 3) {
		checkClass(t, known, name)
		checkClass(t, known, strings.ToUpper(name))
	}
	for s := range trial.Joined(pieces, 3) {
		checkClass(t, known, s)
	}
}

// 5.5
func TestLetter(t *testing.T) {
	for s := range 256 {
		want, wantWhy := "", api.ErrArg
		if s < len(sideNames) {
			want, wantWhy = sideNames[s].letter, api.OK
		}
		if got, why := words.Letter(api.Side(s)); got != want || why != wantWhy {
			t.Errorf("Letter of %d: %q, %v", s, got, why)
		}
	}
}

func checkSide(t *testing.T, known map[string]api.Side, name string) {
	t.Helper()
	want, is := known[looseOf(name)]
	wantWhy := api.OK
	if !is {
		wantWhy = api.ErrNoSide
	}
	if got, why := words.Side(name); got != want || why != wantWhy {
		t.Errorf("Side of %q: %d, %v", name, got, why)
	}
}

// 5.5
func TestSide(t *testing.T) {
	for _, c := range []struct {
		name string
		want api.Side
		why  api.Errno
	}{
		{"O", api.Opens, api.OK}, {"close", api.Closes, api.OK}, {"x", 0, api.ErrNoSide},
		{"n", api.None, api.OK}, {"NONE", api.None, api.OK}, {"o", api.Opens, api.OK}, {"Open", api.Opens, api.OK}, {"C", api.Closes, api.OK},
		{"", 0, api.ErrNoSide}, {" ", 0, api.ErrNoSide}, {"_-\u3000", 0, api.ErrNoSide},
		{"opens", 0, api.ErrNoSide}, {"closes", 0, api.ErrNoSide}, {"ope", 0, api.ErrNoSide}, {"no", 0, api.ErrNoSide},
		{"o\n", 0, api.ErrNoSide}, {"\xffo", 0, api.ErrNoSide}, {"0", 0, api.ErrNoSide}, {"L", 0, api.ErrNoSide}, {"on", 0, api.ErrNoSide},
	} {
		if got, why := words.Side(c.name); got != c.want || why != c.why {
			t.Errorf("Side of %q: %d, %v", c.name, got, why)
		}
	}
}

// 5.5, 5.7: all that is alike to a side's name, and what is not.
func TestSideOfOtherNames(t *testing.T) {
	known := sideByLoose()
	for _, n := range sideNames {
		for _, name := range append(dressed(n.letter), dressed(n.long)...) {
			if got, why := words.Side(name); got != n.side || why != api.OK {
				t.Errorf("Side of %q: %d, %v", name, got, why)
			}
		}
		for _, name := range append(spoilt(n.letter), spoilt(n.long)...) {
			checkSide(t, known, name)
		}
		letter, _ := words.Letter(n.side)
		if got, why := words.Side(letter); got != n.side || why != api.OK {
			t.Errorf("Side of Letter(%d): %d, %v", n.side, got, why)
		}
	}
	letters := strings.Split("abcdefghijklmnopqrstuvwxyz", "")
	for name := range trial.Joined(letters, 2) {
		checkSide(t, known, name)
	}
	for _, n := range classNames {
		checkSide(t, known, n.short)
		checkSide(t, known, n.long)
	}
}

// 5.7
func TestClassThereAndBack(t *testing.T) {
	for c := api.L; c <= api.PDI; c++ {
		short, _ := words.Short(c)
		long, _ := words.Long(c)
		one, why := words.Class(short)
		two, other := words.Class(long)
		if one != c || two != c || why != api.OK || other != api.OK {
			t.Errorf("%d: %d, %v; %d, %v", c, one, why, two, other)
		}
	}
}
