package squeeze

import (
	"bytes"
	"math/rand"
	"slices"
	"testing"

	"cuneiform/api"
)

// handed are the items that Items hands over, as far as they are asked for: at most n of them.
func handed(b []byte, n int) [][2]int {
	var l [][2]int
	for count, distance := range Items(b) {
		l = append(l, [2]int{count, distance})
		if len(l) == n {
			break
		}
	}
	return l
}

// handsOver fails the test, if Items hands over others than these.
func handsOver(t *testing.T, b []byte, want [][2]int) {
	t.Helper()
	kept := bytes.Clone(b)
	if got := handed(b, -1); !slices.Equal(got, want) {
		t.Fatalf("Items of %s: %v, not %v", short(b), got, want)
	}
	for n := 1; n <= len(want) && n <= 3; n++ {
		if got := handed(b, n); !slices.Equal(got, want[:n]) {
			t.Fatalf("the first %d Items of %s: %v", n, short(b), got)
		}
	}
	if !same(b, kept) {
		t.Fatal("Items changed the bytes that it was handed")
	}
}

// itemsTold are the items that Items is to hand over.
func itemsTold(b []byte) [][2]int {
	var l [][2]int
	things, _ := thingsTold(b)
	for _, x := range things {
		l = append(l, [2]int{x.count, x.distance})
	}
	return l
}

func TestItems(t *testing.T) { // P19.3
	for _, c := range []struct {
		of   string
		want [][2]int
	}{
		{"", nil},
		{"\x00\x07\x85\x01\x00", [][2]int{{1, 0}, {8, 1}}},
		{"\x01ab\x85\x02\x00\x00x", [][2]int{{2, 0}, {8, 2}, {1, 0}}},
		{"\x00a\x80\x01\x00\xff\x34\x12", [][2]int{{1, 0}, {3, 1}, {130, 0x1234}}},
		{"\x7f" + string(unlike(128, "")), [][2]int{{128, 0}}},
		// One that ends too soon is the end.
		{"\x00", nil}, {"\x80", nil}, {"\x80\x01", nil}, {"\x02ab", nil}, {"\x7f" + string(unlike(127, "")), nil},
		{"\x00a\x02ab", [][2]int{{1, 0}}},
		{"\x00a\x80\x01\x00\x80\x01", [][2]int{{1, 0}, {3, 1}}},
		{"\x00a\x00a\xff", [][2]int{{1, 0}, {1, 0}}},
		// A distance that is none is not.
		{"\x80\x00\x00\x80\x09\x00\x00a\xff\xff\xff\x00b", [][2]int{{3, 0}, {3, 9}, {1, 0}, {130, 65535}, {1, 0}}},
	} {
		handsOver(t, []byte(c.of), c.want)
	}
	handsOver(t, nil, nil)
}

func TestItemsOfShortBytes(t *testing.T) { // P19.3, P1
	each("\x00\x01\x02\x7f\x80\x81\xff", 5, func(b []byte) { handsOver(t, b, itemsTold(b)) })
}

func TestItemsByChance(t *testing.T) { // P19.3, P1
	r := rand.New(rand.NewSource(9))
	for range 5000 {
		for _, b := range [][]byte{itemsByChance(r), some(r, r.Intn(60), 256)} {
			handsOver(t, b, itemsTold(b))
		}
		b := patched(r, 1+r.Intn(300), 4)
		s, e := Squeeze(b)
		if e != api.OK {
			t.Fatalf("Squeeze of %s: %d", short(b), e)
		}
		handsOver(t, s, itemsTold(s))
	}
}

func TestItemsAreThoseOfTheCall(t *testing.T) { // P19.3, rule 3
	b := []byte("\x01ab\x85\x02\x00\x00x")
	want := [][2]int{{2, 0}, {8, 2}, {1, 0}}
	all := Items(b)
	for range 2 {
		var got [][2]int
		for count, distance := range all {
			got = append(got, [2]int{count, distance})
			clear(b)
		}
		if !slices.Equal(got, want) {
			t.Errorf("Items, of bytes that were changed behind the call: %v, not %v", got, want)
		}
	}
	// Two that are gone through at a time know nothing of one another.
	n := 0
	for range all {
		for range all {
			n++
		}
	}
	if n != 9 {
		t.Errorf("two at a time: %d, not 9", n)
	}
}
