package find

import (
	"cuneiform/api"
	"cuneiform/glob"
)

const anyKind = 0

// wanted is a wish that is right, with its pattern.
type wanted struct {
	Wish
	pattern *glob.Pattern
}

// read is a wish, if it is right.
func read(w Wish) (wanted, api.Errno) {
	p, e := glob.New(w.Pattern)
	switch {
	case e != api.OK:
		return wanted{}, e
	case w.Kind < anyKind || w.Kind > api.IDir, w.Least < 0, w.Links < 0, w.Order < asWalked || w.Order > byDepth:
		return wanted{}, api.ErrArg
	}
	return wanted{w, p}, api.OK
}

// meets tells whether a path of these names, of which this is told, meets the wish.
func (w wanted) meets(names []string, s api.Stat) bool {
	switch {
	case w.Kind != anyKind && w.Kind != s.Kind:
		return false
	case s.Kind == api.IDir:
		// It has no size and no links to be asked for: so it is left out only where there have to be some.
		return w.Least == 0 && w.Links == 0 && w.pattern.Match(names)
	}
	return w.fits(s.Size) && s.Links >= w.Links && w.pattern.Match(names)
}

// fits tells whether a file may have this size.
func (w Wish) fits(size int64) bool {
	// Least and Most that are both 0 ask for no size. (None is below 0.)
	open := w.Most < 0 || w.Least == 0 && w.Most == 0
	return size >= w.Least && (open || size <= w.Most)
}
