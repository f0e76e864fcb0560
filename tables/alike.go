package tables

import "furrow/api"

// Classes is the class that p tells of each rune of the text; none, if p is nil.
func Classes(p api.Props, text ...rune) []api.Class {
	if p == nil {
		return nil
	}
	var list []api.Class
	for _, r := range text {
		list = append(list, p.Class(known(r)))
	}
	return list
}

// Alike is the least number of which a and b tell unlike things, and true; 0 and false, if they tell the same of each, or both are nil.
func Alike(a, b api.Props) (rune, bool) {
	if a == nil || b == nil {
		return 0, (a == nil) != (b == nil)
	}
	for r := range rune(beyond) {
		if told(a, r) != told(b, r) {
			return r, true
		}
	}
	return 0, false
}

// told is all that p tells of r, without what it tells beside None and beside false.
func told(p api.Props, r rune) api.Point {
	point := api.Point{Class: p.Class(r), Twin: p.Twin(r)}
	if other, side := p.Bracket(r); side != api.None {
		point.Other, point.Side = other, side
	}
	if to, is := p.Mirror(r); is {
		point.Mirror, point.Turns = to, true
	}
	return point
}
