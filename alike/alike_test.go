package alike

import (
	"bytes"
	"math/rand"
	"testing"

	"firmware/layout"
)

// some makes bytes of so many kinds.
func some(r *rand.Rand, size, kinds int) []byte {
	b := make([]byte, size)
	for i := range b {
		b[i] = byte(r.Intn(kinds))
	}
	return b
}

// parts gathers what Find sends.
func parts(old, next []byte) []layout.Part {
	found := make(chan layout.Part)
	go Find(old, next, found)
	var l []layout.Part
	for p := range found {
		l = append(l, p)
	}
	return l
}

// built makes the new image of its parts, and tells how many bytes they take.
func built(t *testing.T, old, next []byte, l []layout.Part) ([]byte, int) {
	t.Helper()
	var b []byte
	cost := 0
	for _, p := range l {
		if p.Size < 1 || p.Size > len(next)-len(b) {
			t.Fatalf("part %v behind %d of %d bytes", p, len(b), len(next))
		}
		cost += layout.Cost(p.Kind, p.Size)
		switch p.Kind {
		case layout.Keep:
			b = append(b, old[len(b):len(b)+p.Size]...)
		case layout.Copy:
			b = append(b, old[p.At:p.At+p.Size]...)
		default:
			b = append(b, next[len(b):len(b)+p.Size]...)
		}
	}
	return b, cost
}

// fewest tells by all parts that are possible how many bytes next takes.
func fewest(old, next []byte) int {
	cost := make([]int, len(next)+1)
	for at := len(next) - 1; at >= 0; at-- {
		cost[at] = 1 << 30
		for size := 1; size <= len(next)-at; size++ {
			row := next[at : at+size]
			cost[at] = min(cost[at], layout.Cost(layout.Fresh, size)+cost[at+size])
			if bytes.Contains(old, row) {
				cost[at] = min(cost[at], layout.Cost(layout.Copy, size)+cost[at+size])
			}
			if at+size <= len(old) && bytes.Equal(old[at:at+size], row) {
				cost[at] = min(cost[at], layout.Cost(layout.Keep, size)+cost[at+size])
			}
		}
	}
	return cost[0]
}

func TestPartsAreTheFewestBytes(t *testing.T) {
	r := rand.New(rand.NewSource(3))
	for range 400 {
		kinds := 1 + r.Intn(6)
		old, next := some(r, r.Intn(120), kinds), some(r, r.Intn(120), kinds)
		for range r.Intn(4) {
			at := r.Intn(len(old) + 1)
			next = append(next, old[at:at+r.Intn(len(old)-at+1)]...)
		}
		b, cost := built(t, old, next, parts(old, next))
		if !bytes.Equal(b, next) {
			t.Fatalf("old %v, next %v: parts make %v", old, next, b)
		}
		if want := fewest(old, next); cost != want {
			t.Fatalf("old %v, next %v: %d bytes, want %d", old, next, cost, want)
		}
	}
}

func TestPartsOfNothing(t *testing.T) {
	if l := parts([]byte("old"), nil); len(l) != 0 {
		t.Errorf("%v", l)
	}
}

func TestLongestIsLongest(t *testing.T) {
	r := rand.New(rand.NewSource(4))
	for range 300 {
		image, row := some(r, r.Intn(60), 1+r.Intn(3)), some(r, r.Intn(30), 1+r.Intn(3))
		at, size := newIndex(image).longest(row)
		if !bytes.Equal(image[at:at+size], row[:size]) {
			t.Fatalf("%v in %v: %d bytes at %d are others", row, image, size, at)
		}
		if size < len(row) && bytes.Contains(image, row[:size+1]) {
			t.Fatalf("%v in %v: %d bytes are not the most", row, image, size)
		}
	}
}
