package trial

import (
	"strconv"
	"strings"

	"furrow/api"
)

// Databases are files of all sorts that are one.
func Databases() map[string]api.Files {
	return map[string]api.Files{
		"none": {},
		"chapter 10's": {
			Rows:     Text(Row(0x28, "ON", "", "Y"), Row(0x29, "ON", "", "Y"), Row(0x41, "L", "", "N")),
			Classes:  Text("0028..0029; ON"),
			Brackets: Text("0028; 0029; o", "0029; 0028; c"),
			Mirrors:  Text("0028; 0029", "0029; 0028"),
		},
		"twins": {
			Rows:     Text(Row(0x28, "ON", "", "Y"), Row(0x2329, "ON", "3008", "Y"), Row(0x232A, "ON", "3009", "Y")),
			Classes:  Text("0028..0029; ON", "2329..232A; ON", "3008..3009; ON"),
			Brackets: Text("0028; 0029; o", "0029; 0028; c", "2329; 232A; o", "232A; 2329; c", "3008; 3009; o", "3009; 3008; c"),
		},
		"the ends": {
			Rows:     Text(Row(0, "ON", "", "Y"), Row(0x10FFFF, "ON", "", "Y")),
			Classes:  Text("# @missing: 0000..10FFFF; ON"),
			Brackets: Text("0000; 10FFFF; c", "10FFFF; 0000; o", "0001; 10FFFE; o", "10FFFE; 0001; c"),
			Mirrors:  Text("0000; 10FFFF", "10FFFF; 0000"),
		},
		"the other ends": {
			Rows:     Text(Row(5, "ON", "0001", "N"), Row(0x10FFFA, "ON", "10FFFF", "N")),
			Classes:  Text("# @missing: 0000..10FFFF; ON"),
			Brackets: Text("0001; 10FFFF; o", "10FFFF; 0001; c", "0005; 10FFFA; o", "10FFFA; 0005; c"),
		},
		"mirrors": {
			Rows:    Text(Row(0x3C, "ON", "", "Y"), Row(0x3E, "ON", "", "Y"), Row(0xFFFD, "L", "0041", "Y"), Row(0x10FFFE, "R", "", "Y")),
			Classes: Text("003C; ON", "003E; ON", "10FFFE; R"),
			Mirrors: Text("003C; 003E", "003E; 003C # [BEST FIT]", "FFFD; 10FFFE", "10FFFE; FFFD"),
		},
		"all classes": {Classes: manyClasses()},
		"surrogates":  {Classes: Text("# @missing: 0590..08FF; R", "D800; AL", "D801..DFFE; NSM", "DFFF; BN", "10FFFF; B")},
		"many":        manyPairs(),
	}
}

// manyClasses is a line for each class, and for stretches of many lengths.
func manyClasses() string {
	names := strings.Fields("L R AL EN ES ET AN CS NSM BN B S WS ON LRE LRO RLE RLO PDF LRI RLI FSI PDI")
	var lines []string
	at := rune(0)
	for i := range rune(500) {
		to := at + i*i%701
		lines = append(lines, digits(at)+".."+digits(to)+"; "+names[i%23])
		at = to + 1 + i%3
	}
	return Text(lines...)
}

// manyPairs is files of pairs of brackets all over the numbers, each of which is a mirror, too, and has the first one as its twin.
func manyPairs() api.Files {
	var rows, brackets, mirrors []string
	for i := range rune(900) {
		one, other := i*1201+64, i*1201+64+i%100+1
		twin, otherTwin := "0040", "0041"
		if i == 0 {
			twin, otherTwin = "", ""
		}
		rows = append(rows, Row(one, "ON", twin, "Y"), Row(other, "ON", otherTwin, "Y"))
		there, back := digits(one)+"; "+digits(other), digits(other)+"; "+digits(one)
		brackets = append(brackets, there+"; o", back+"; c")
		mirrors = append(mirrors, there, back)
	}
	return api.Files{Rows: Text(rows...), Classes: Text("# @missing: 0000..10FFFF; ON"), Brackets: Text(brackets...), Mirrors: Text(mirrors...)}
}

// Row is a character's line: its number, class, twin ("": none) and whether it is mirrored.
func Row(point rune, class, twin, flag string) string {
	return digits(point) + ";N;Ps;0;" + class + ";" + twin + ";;;;" + flag + ";;;;;"
}

// Text is the lines, an end behind each.
func Text(lines ...string) string {
	return strings.Join(lines, "\n") + "\n"
}

// digits is r as files write it.
func digits(r rune) string {
	hex := strings.ToUpper(strconv.FormatInt(int64(r), 16))
	return strings.Repeat("0", max(0, 4-len(hex))) + hex
}
