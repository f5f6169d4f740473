package desk

import (
	"bytes"
	"cuneiform/api"
	"math"
	"strconv"
	"strings"
)

// What a line needs.
const (
	nothing = iota
	aChip
	files
)

// What the words of a line are, behind its first one.
const (
	isNumber = 'N'
	isHex    = 'H'
	isPath   = 'P' // any word
)

// form is how a line looks.
type form struct {
	verb  string
	takes string // what each further word is
	needs int
}

// forms are the lines that there are.
var forms = [...]form{
	{"chip", "NNN", nothing},
	{"bad", "N", aChip},
	{"fault", "NNH", aChip},
	{"lose", "", aChip},
	{"start", "", aChip},
	{"format", "N", aChip},
	{"mount", "", aChip},
	{"unmount", "", files},
	{"open", "PN", files},
	{"close", "N", files},
	{"read", "NN", files},
	{"write", "NH", files},
	{"fill", "NNN", files},
	{"seek", "NNN", files},
	{"truncate", "PN", files},
	{"mkdir", "P", files},
	{"rmdir", "P", files},
	{"unlink", "P", files},
	{"link", "PP", files},
	{"rename", "PP", files},
	{"ls", "P", files},
	{"stat", "P", files},
	{"df", "", files},
	{"fsync", "N", files},
	{"sync", "", files},
	{"tree", "P", files},
}

const (
	mostFilled = 2000 // bytes of a line that fills
	mostByte   = 255
)

// order is a line that was read.
type order struct {
	form
	numbers []int64
	paths   []string
	data    []byte
}

// number is one of an order's numbers. (Where Go's int is narrow, one beyond it is beyond all that calls take.)
func (o order) number(k int) int {
	return int(min(max(o.numbers[k], math.MinInt), math.MaxInt))
}

// read is what a line asks for.
func read(s string) (order, api.Errno) {
	words := strings.Split(s, " ")
	for _, f := range forms {
		if f.verb != words[0] || len(f.takes) != len(words)-1 {
			continue
		}
		o := order{form: f}
		for k, w := range words[1:] {
			if !o.take(f.takes[k], w) {
				return order{}, api.ErrLine
			}
		}
		if f.verb == "fill" && !o.fill() {
			return order{}, api.ErrLine
		}
		return o, api.OK
	}
	return order{}, api.ErrLine
}

// take takes one more word, if it is what it is to be.
func (o *order) take(what byte, w string) bool {
	ok := w != ""
	switch what {
	case isNumber:
		var n int64
		n, ok = toNumber(w)
		o.numbers = append(o.numbers, n)
	case isHex:
		o.data, ok = toBytes(w)
	case isPath:
		o.paths = append(o.paths, w)
	}
	return ok
}

// fill makes the bytes of a line that fills, if there may be so many, and such ones.
func (o *order) fill() bool {
	n, x := o.numbers[1], o.numbers[2]
	if n < 0 || n > mostFilled || x < 0 || x > mostByte {
		return false
	}
	o.data = bytes.Repeat([]byte{byte(x)}, int(n))
	return true
}

// toNumber is the number whose text that is, if it is one's.
func toNumber(w string) (int64, bool) {
	n, err := strconv.ParseInt(w, 10, 64)
	// The library reads more than a number's own text: 007, +7, -0.
	return n, err == nil && strconv.FormatInt(n, 10) == w
}

const (
	digits  = "0123456789abcdef"
	noBytes = "-"
)

// toHex is the text of bytes.
func toHex(b []byte) string {
	if len(b) == 0 {
		return noBytes
	}
	var s strings.Builder
	for _, x := range b {
		s.WriteByte(digits[x>>4])
		s.WriteByte(digits[x&15])
	}
	return s.String()
}

// toBytes are the bytes whose text that is, if it is bytes'.
func toBytes(w string) ([]byte, bool) {
	if w == noBytes {
		return nil, true
	}
	if w == "" || len(w)%2 > 0 {
		return nil, false
	}
	b := make([]byte, len(w)/2)
	for i := range b {
		high := strings.IndexByte(digits, w[2*i])
		low := strings.IndexByte(digits, w[2*i+1])
		if high < 0 || low < 0 {
			return nil, false
		}
		b[i] = byte(high<<4 | low)
	}
	return b, true
}
