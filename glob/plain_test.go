package glob

import (
	"slices"
	"strings"
)

// What the document says, told plainly: without remembering anything, so for short texts alone.

// mark is a mark of a part, or a byte: the bytes that it stands for, in order, or all texts.
type mark struct {
	star bool
	of   []byte
}

// allBut are the bytes of which of is not one.
func allBut(of []byte) []byte {
	var l []byte
	for x := range 256 {
		if !slices.Contains(of, byte(x)) {
			l = append(l, byte(x))
		}
	}
	return l
}

// setTold takes the set that a text begins with, and answers how many bytes of the text it has, 0 if there is none.
func setTold(s string) ([]byte, int) {
	at := 1
	turned := at < len(s) && s[at] == '!'
	if turned {
		at++
	}
	var of []byte
	first := at
	for at < len(s) && s[at] != ']' {
		if at+2 < len(s) && s[at+1] == '-' && s[at+2] != ']' {
			for x := 0; x < 256; x++ {
				if int(s[at]) <= x && x <= int(s[at+2]) {
					of = append(of, byte(x))
				}
			}
			at += 3
			continue
		}
		of = append(of, s[at])
		at++
	}
	if at == len(s) || at == first {
		return nil, 0
	}
	if turned {
		of = allBut(of)
	}
	return of, at + 1
}

// marksTold are the marks and bytes of a part.
func marksTold(s string) ([]mark, bool) {
	if len(s) < 1 || len(s) > 64 {
		return nil, false
	}
	var l []mark
	for at := 0; at < len(s); {
		switch s[at] {
		case '*':
			l = append(l, mark{star: true})
		case '?':
			l = append(l, mark{of: allBut(nil)})
		case '[':
			of, n := setTold(s[at:])
			if n == 0 {
				return nil, false
			}
			l = append(l, mark{of: of})
			at += n - 1
		default:
			l = append(l, mark{of: []byte{s[at]}})
		}
		at++
	}
	return l, true
}

// cut tells whether a name can be cut into pieces for which the marks stand.
func cut(l []mark, name string) bool {
	if len(l) == 0 {
		return name == ""
	}
	if !l[0].star {
		return name != "" && slices.Contains(l[0].of, name[0]) && cut(l[1:], name[1:])
	}
	for n := range len(name) + 1 {
		if cut(l[1:], name[n:]) {
			return true
		}
	}
	return false
}

// partsTold are the parts of a pattern's text.
func partsTold(s string) []string {
	var l []string
	for _, part := range strings.Split(s, "/") {
		if part != "" {
			l = append(l, part)
		}
	}
	return l
}

// matchTold tells whether parts match names.
func matchTold(parts, names []string) bool {
	if len(parts) == 0 {
		return len(names) == 0
	}
	if parts[0] != "**" {
		l, _ := marksTold(parts[0])
		return len(names) > 0 && cut(l, names[0]) && matchTold(parts[1:], names[1:])
	}
	for n := range len(names) + 1 {
		if matchTold(parts[1:], names[n:]) {
			return true
		}
	}
	return false
}

// nameOf is a name that is not empty and that a part matches, if there is one.
func nameOf(part string) (string, bool) {
	l, _ := marksTold(part)
	name := ""
	for _, m := range l {
		switch {
		case m.star:
			name += "x"
		case len(m.of) == 0:
			return "", false
		default:
			name += string(m.of[:1])
		}
	}
	return name, true
}

// mayTold tells whether there are names behind these, so that parts match them: then there are some that have just one name for each of the last parts that are not **.
func mayTold(parts, names []string) bool {
	if matchTold(parts, names) {
		return true
	}
	var behind []string
	for i := len(parts) - 1; i >= 0; i-- {
		if parts[i] == "**" {
			continue
		}
		name, ok := nameOf(parts[i])
		if !ok {
			return false
		}
		behind = slices.Insert(behind, 0, name)
		if matchTold(parts, slices.Concat(names, behind)) {
			return true
		}
	}
	return false
}
