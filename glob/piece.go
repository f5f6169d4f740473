package glob

import "strings"

// maxPart is how many bytes a part of a pattern may have.
const maxPart = 64

// set is a set of bytes, a digit for each.
type set [4]uint64

// span is the set of the bytes from one up to another.
func span(from, to byte) set {
	var s set
	for x := int(from); x <= int(to); x++ {
		s[x/64] |= 1 << (x % 64)
	}
	return s
}

// with is the set of what is in one or the other.
func (s set) with(t set) set {
	for i := range s {
		s[i] |= t[i]
	}
	return s
}

// others is the set of what is not in s.
func (s set) others() set {
	for i := range s {
		s[i] = ^s[i]
	}
	return s
}

// has tells whether a byte is in the set.
func (s set) has(x byte) bool {
	return s[x/64]>>(x%64)&1 == 1
}

// piece is a mark, or a byte that is none.
type piece struct {
	run bool // it stands for any bytes
	of  set  // if not, for one of these
}

// barren tells whether there is nothing that a piece stands for.
func (p piece) barren() bool {
	return !p.run && p.of == set{}
}

// read is the pieces of a part, if the text is one.
func read(s string) ([]piece, bool) {
	if len(s) < 1 || len(s) > maxPart {
		return nil, false
	}
	var pieces []piece
	for s != "" {
		p, rest, ok := first(s)
		if !ok {
			return nil, false
		}
		pieces = append(pieces, p)
		s = rest
	}
	return pieces, true
}

// first is the first piece of a text, and what stands behind it.
func first(s string) (piece, string, bool) {
	mark, rest := s[0], s[1:]
	switch mark {
	case '*':
		return piece{run: true}, rest, true
	case '?':
		return piece{of: span(0, 255)}, rest, true
	case '[':
		of, behind, ok := members(rest)
		return piece{of: of}, behind, ok
	}
	return piece{of: span(mark, mark)}, rest, true
}

// members is the set of which the text behind its [ is handed in, and what stands behind its ].
func members(s string) (set, string, bool) {
	s, round := strings.CutPrefix(s, "!")
	var of set
	n := 0
take:
	for ; s != ""; n++ {
		switch {
		case s[0] == ']':
			break take
		case len(s) > 2 && s[1] == '-' && s[2] != ']':
			of = of.with(span(s[0], s[2]))
			s = s[3:]
		default:
			of = of.with(span(s[0], s[0]))
			s = s[1:]
		}
	}
	if n == 0 || s == "" {
		return set{}, "", false
	}
	if round {
		of = of.others()
	}
	return of, s[1:], true
}

// matches tells whether the pieces of a part match a name.
func matches(pieces []piece, name string) bool {
	return row{
		pieces: len(pieces),
		places: len(name),
		run:    func(i int) bool { return pieces[i].run },
		fits:   func(i, k int) bool { return pieces[i].of.has(name[k]) },
		beyond: nothing,
	}.covers()
}
