package words

import (
	"strings"

	"furrow/api"
)

// Class is the class of which a name, short or long, is alike to name.
func Class(name string) (api.Class, api.Errno) {
	c := classOf(Loose(name))
	if c == 0 {
		return 0, api.ErrNoClass
	}
	return c, api.OK
}

// Short is c's short name.
func Short(c api.Class) (string, api.Errno) {
	short, _ := namesOf(c)
	return told(short)
}

// Long is c's long name.
func Long(c api.Class) (string, api.Errno) {
	_, long := namesOf(c)
	return told(long)
}

// told is a name with its error: what has none may not be.
func told(name string) (string, api.Errno) {
	if name == "" {
		return "", api.ErrArg
	}
	return name, api.OK
}

// Classes is the classes that the words of s name; or the byte place of the first word that names none.
func Classes(s string) ([]api.Class, int, api.Errno) {
	var classes []api.Class
	for at, word := range Each(s) {
		c, why := Class(word)
		if why != api.OK {
			return nil, at, why
		}
		classes = append(classes, c)
	}
	return classes, 0, api.OK
}

// Write is the short names of the classes, a space between two.
func Write(classes ...api.Class) (string, api.Errno) {
	names := make([]string, 0, len(classes))
	for _, c := range classes {
		name, why := Short(c)
		if why != api.OK {
			return "", why
		}
		names = append(names, name)
	}
	return strings.Join(names, " "), api.OK
}

// Side is the side of which a name, the letter or the long one, is alike to name.
func Side(name string) (api.Side, api.Errno) {
	switch Loose(name) {
	case "n", "none":
		return api.None, api.OK
	case "o", "open":
		return api.Opens, api.OK
	case "c", "close":
		return api.Closes, api.OK
	}
	return 0, api.ErrNoSide
}

// Letter is the letter of s.
func Letter(s api.Side) (string, api.Errno) {
	switch s {
	case api.None:
		return "n", api.OK
	case api.Opens:
		return "o", api.OK
	case api.Closes:
		return "c", api.OK
	}
	return "", api.ErrArg
}
