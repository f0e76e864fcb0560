package words_test

import (
	"strings"
	"testing"
	"unicode/utf8"

	"furrow/trial"
	"furrow/utf"
	"furrow/words"
)

// looseRune is what a loose form has of r: below 0, if nothing.
func looseRune(r rune) rune {
	switch at := strings.IndexRune("ABCDEFGHIJKLMNOPQRSTUVWXYZ", r); {
	case isBlank(r) || r == 0x5F || r == 0x2D:
		return -1
	case at >= 0:
		return rune("abcdefghijklmnopqrstuvwxyz"[at])
	}
	return r
}

// looseOf is the loose form of s: the library's Map lays FFFD for a wrong byte, too.
func looseOf(s string) string {
	return strings.Map(looseRune, s)
}

// 5.2
func TestLoose(t *testing.T) {
	for _, c := range []struct{ name, want string }{
		{"", ""},
		{"Left_To-Right", "lefttoright"},
		{"\xff", fffd},
		{"\xc3\x89", "\xc3\x89"},
		{"_", ""},
		{"-", ""},
		{"__--_-", ""},
		{" \t\v\f", ""},
		{"\u0085\u00a0\u1680\u2000\u2005\u200a\u2028\u2029\u202f\u205f\u3000", ""},
		{" _-\u3000-_ ", ""},
		{"ABCDEFGHIJKLMNOPQRSTUVWXYZ", "abcdefghijklmnopqrstuvwxyz"},
		{"abcdefghijklmnopqrstuvwxyz", "abcdefghijklmnopqrstuvwxyz"},
		{"@AZ[`az{", "@az[`az{"},
		{"0 1-2_9", "0129"},
		{"a\nB\rC\r\n", "a\nb\rc\r\n"},
		{"\u00c9\u0130\u0391\u0416\u017f\u1e9e\u212a\uff21\U00010400", "\u00c9\u0130\u0391\u0416\u017f\u1e9e\u212a\uff21\U00010400"}, // capitals beyond Z stay
		{"\u2010\u2011\u2012\u2013\u00ad\u203f\uff3f\uff0d", "\u2010\u2011\u2012\u2013\u00ad\u203f\uff3f\uff0d"},                     // so do hyphens and low lines of other kinds
		{"\u200b\ufeff\u180e", "\u200b\ufeff\u180e"},
		{fffd, fffd},
		{"A\xe2\x82B", "a" + fffd + fffd + "b"},
		{"\xe3\x80", fffd + fffd},
		{"\xc2 \xa0", fffd + fffd},
		{"\xed\xa0\x80", fffd + fffd + fffd},
		{"\xc1\x81\xc0\xad", fffd + fffd + fffd + fffd}, // an A and a hyphen written too long
		{"\x00\x7f", "\x00\x7f"},
	} {
		if got := words.Loose(c.name); got != c.want {
			t.Errorf("Loose of %q: %q", c.name, got)
		}
	}
}

// 5.2
func TestLooseOfEachByte(t *testing.T) {
	for b := range 256 {
		want := string([]byte{byte(b)})
		switch {
		case b == 0x09 || b == 0x0B || b == 0x0C || b == 0x20 || b == 0x2D || b == 0x5F:
			want = ""
		case b >= 0x41 && b <= 0x5A:
			want = string([]byte{byte(b + 32)})
		case b >= 0x80:
			want = fffd
		}
		if got := words.Loose(string([]byte{byte(b)})); got != want {
			t.Errorf("Loose of %x: %q", b, got)
		}
	}
}

// 5.2
func TestLooseOfEachCharacter(t *testing.T) {
	for r := rune(0); r <= utf8.MaxRune; r++ {
		want := ""
		if kept := looseRune(r); kept >= 0 {
			want = string(kept)
		}
		if got := words.Loose(string(r)); got != want {
			t.Fatalf("Loose of %x: %q", r, got)
		}
	}
}

// 5.2, 5.6: of all sorts of texts; and of a loose form again.
func TestLooseOfAll(t *testing.T) {
	for s := range someTexts {
		loose := words.Loose(s)
		if loose != looseOf(s) {
			t.Fatalf("Loose of %q: %q", s, loose)
		}
		if again := words.Loose(loose); again != loose {
			t.Fatalf("Loose of %q: %q, and of that %q", s, loose, again)
		}
		if !words.Alike(s, s) || !words.Alike(s, loose) || !words.Alike(loose, s) {
			t.Fatalf("%q and %q are not alike", s, loose)
		}
	}
}

// 5.6: what is joined where a character begins has the two loose forms joined; and else its own.
func TestLooseOfTwoTexts(t *testing.T) {
	apart, differ := 0, 0
	for s := range trial.Joined(pieces, 4) {
		places := utf.New(s)
		for at := range len(s) + 1 {
			joined := words.Loose(s[:at]) + words.Loose(s[at:])
			if places.Begins(at) {
				apart++
				if joined != words.Loose(s) {
					t.Fatalf("%q at %d: %q, not %q", s, at, joined, words.Loose(s))
				}
			} else if joined != words.Loose(s) {
				differ++
			}
		}
	}
	if apart == 0 || differ == 0 {
		t.Error(apart, differ)
	}
	for _, c := range []struct{ a, b, whole, parts string }{
		{"a\xe3\x80", "\x80b", "ab", "a" + fffd + fffd + fffd + "b"},
		{"A\xc2", "\xa0", "a", "a" + fffd + fffd},
		{"\xc3", "\x89", "\u00c9", fffd + fffd},
		{"\xe2", "\x82", fffd + fffd, fffd + fffd},
	} {
		if got := words.Loose(c.a + c.b); got != c.whole {
			t.Errorf("Loose of %q: %q", c.a+c.b, got)
		}
		if got := words.Loose(c.a) + words.Loose(c.b); got != c.parts {
			t.Errorf("Loose of %q and of %q: %q", c.a, c.b, got)
		}
	}
}

// 5.2
func TestAlike(t *testing.T) {
	for _, c := range []struct {
		a, b string
		want bool
	}{
		{"White Space", "WHITE_SPACE", true},
		{"\xff", fffd, true},
		{"\xff", "\xfe", true},
		{"\xe2\x82", "\xff\xff", true},
		{"\xe2\x82", "\xff", false},
		{"", "", true},
		{"", " _-\u3000", true},
		{"", "a", false},
		{"a", "b", false},
		{"a", "aa", false},
		{"ab", "ba", false},
		{"A B", "a-b", true},
		{"\u00c9", "\u00e9", false},
		{"\u212a", "k", false},
		{"@", "`", false},
		{"[", "{", false},
		{"a\n", "a", false},
		{"a\r", "a", false},
		{"a\u200b", "a", false},
	} {
		if words.Alike(c.a, c.b) != c.want || words.Alike(c.b, c.a) != c.want {
			t.Errorf("%q and %q: %v, %v", c.a, c.b, !c.want, c.want)
		}
	}
}

// 5.2, 5.6: alike just if the loose forms are the same; so what is alike to a third one is alike.
func TestAlikeOfThree(t *testing.T) {
	texts := []string{
		"", " ", "_-", "a", "A", "a_", "-A", "\u3000a", "b", "B ", "ab", "A B", "b_a", "\xff", "\xc2", fffd, "-" + fffd, "\xff\xff", "\xe3\x80", "\u00c9", "\u00e9", "a\n", "\nA",
	}
	some := 0
	for _, a := range texts {
		for _, b := range texts {
			if words.Alike(a, b) != (looseOf(a) == looseOf(b)) || words.Alike(a, b) != words.Alike(b, a) {
				t.Errorf("%q and %q: %v", a, b, words.Alike(a, b))
			}
			for _, third := range texts {
				if words.Alike(a, third) && words.Alike(b, third) {
					some++
					if !words.Alike(a, b) {
						t.Errorf("%q and %q are alike to %q", a, b, third)
					}
				} else if words.Alike(a, third) != words.Alike(b, third) && words.Alike(a, b) {
					t.Errorf("%q and %q are alike, and one alone to %q", a, b, third)
				}
			}
		}
	}
	if some <= len(texts) {
		t.Error(some)
	}
}
