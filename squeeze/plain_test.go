package squeeze

import (
	"bytes"
	"fmt"

	"cuneiform/api"
)

// What the document says, told plainly: each distance is tried at each place, and bytes are read by their places.

// copyTold is the longest copy at a place, of several that of the least distance; its length is 0, if there is none.
func copyTold(b []byte, at int) (length, distance int) {
	for d := 1; d <= 4096 && d <= at; d++ {
		n := 0
		for n < 130 && at+n < len(b) && b[at+n] == b[at+n-d] {
			n++
		}
		if n >= 3 && n > length {
			length, distance = n, d
		}
	}
	return length, distance
}

// squeezeTold is what bytes are squeezed to.
func squeezeTold(b []byte) []byte {
	var squeezed, own []byte
	end := func() {
		for len(own) > 0 {
			n := min(len(own), 128)
			squeezed = append(squeezed, byte(n-1))
			squeezed = append(squeezed, own[:n]...)
			own = own[n:]
		}
	}
	for at := 0; at < len(b); {
		length, distance := copyTold(b, at)
		if length == 0 {
			own = append(own, b[at])
			at++
			continue
		}
		end()
		squeezed = append(squeezed, byte(length+125), byte(distance%256), byte(distance/256))
		at += length
	}
	end()
	return squeezed
}

// thing is an item as it is read: where it ends, and what Items is to tell of it.
type thing struct {
	end, count, distance int
}

// thingsTold are the items up to the first one that ends too soon, and whether there is none such.
func thingsTold(b []byte) ([]thing, bool) {
	var l []thing
	for at := 0; at < len(b); {
		t := thing{end: at + 2 + int(b[at]), count: int(b[at]) + 1}
		if b[at] > 127 {
			t = thing{end: at + 3, count: int(b[at]) - 125}
		}
		if t.end > len(b) {
			return l, false
		}
		if b[at] > 127 {
			t.distance = int(b[at+1]) + 256*int(b[at+2])
		}
		l = append(l, t)
		at = t.end
	}
	return l, true
}

// openTold is what Open is to answer.
func openTold(b []byte, most int) ([]byte, api.Errno) {
	if most < 0 || most > 1048576 {
		return nil, api.ErrArg
	}
	var out []byte
	from := 0
	l, whole := thingsTold(b)
	for _, t := range l {
		if b[from] > 127 && (t.distance == 0 || t.distance > len(out)) {
			return nil, api.ErrEntry
		}
		if len(out)+t.count > most {
			return nil, api.ErrLong
		}
		for k := range t.count {
			if b[from] > 127 {
				out = append(out, out[len(out)-t.distance])
			} else {
				out = append(out, b[from+1+k])
			}
		}
		from = t.end
	}
	if !whole {
		return nil, api.ErrEntry
	}
	return out, api.OK
}

// short is a text of bytes, or of the first ones of many.
func short(b []byte) string {
	if len(b) > 40 {
		return fmt.Sprintf("%v.. (%d bytes)", b[:40], len(b))
	}
	return fmt.Sprint(b)
}

// same tells whether bytes are the same, none and nil too.
func same(a, b []byte) bool {
	return len(a) == len(b) && bytes.Equal(a, b)
}
