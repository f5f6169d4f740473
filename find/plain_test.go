package find

import (
	"slices"
	"strings"

	"cuneiform/api"
	"cuneiform/fs"
	"cuneiform/glob"
)

// What the document says, told plainly: paths are cut by strings, and put in order by taking the first one again and again.

// parts are a path's names, if it is right.
func parts(p string) []string {
	return strings.FieldsFunc(p, func(c rune) bool { return c == '/' })
}

// meetsTold is whether a path that is right meets a wish that is right.
func meetsTold(w Wish, p string, s api.Stat) bool {
	g, _ := glob.New(w.Pattern)
	if !g.Match(parts(p)) {
		return false
	}
	if w.Kind == 1 && s.Kind != 1 || w.Kind == 2 && s.Kind != 2 {
		return false
	}
	if s.Kind == 2 {
		return w.Least <= 0 && w.Links <= 0
	}
	if s.Size < 0 || s.Links < 0 {
		return false
	}
	if w.Least != 0 || w.Most != 0 {
		if s.Size < w.Least {
			return false
		}
		if w.Most >= 0 && s.Size > w.Most {
			return false
		}
	}
	return w.Links == 0 || s.Links >= w.Links
}

// aheadTold is whether one comes ahead of another one by the order, and is not alike.
func aheadTold(order int, p string, s api.Stat, q string, u api.Stat) bool {
	a, b := parts(p), parts(q)
	switch order {
	case 1:
		for k := range min(len(a), len(b)) {
			if a[k] != b[k] {
				return string([]byte(a[k])) < string([]byte(b[k]))
			}
		}
		return len(a) < len(b)
	case 2:
		if s.Kind == 2 {
			s.Size = 0
		}
		if u.Kind == 2 {
			u.Size = 0
		}
		return s.Size > u.Size
	case 3:
		return len(a) < len(b)
	}
	return false
}

// findTold is what Find is to answer of a directory and a wish that are right; base is the directory's path as it stands ahead of those below.
func findTold(f *fs.FS, base string, w Wish) []string {
	all, stats := walked(f, base+"/")
	var l []string
	var told []api.Stat
	for k, p := range all {
		p = p[len(base):]
		if meetsTold(w, p, stats[k]) {
			l = append(l, p)
			told = append(told, stats[k])
		}
	}
	var sorted []string
	for len(l) > 0 {
		first := 0
		for k := range l {
			if aheadTold(w.Order, l[k], told[k], l[first], told[first]) {
				first = k
			}
		}
		sorted = append(sorted, l[first])
		l = slices.Delete(l, first, first+1)
		told = slices.Delete(told, first, first+1)
	}
	return sorted
}
