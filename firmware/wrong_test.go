package firmware_test

import (
	"bytes"
	"encoding/binary"
	"math/rand"
	"slices"
	"testing"

	"firmware/api"
	"firmware/layout"
)

// few are pairs with patches that are not long.
func few() []pair {
	old := count()
	return []pair{{nil, nil}, {nil, old[:3]}, {old, nil}, {old, old}, {old[:60], old[:130]}, {old, slices.Concat(old[128:], []byte("more"), old[:128])}}
}

// P5, P6, P8: a turned bit is always seen: each one of short patches.
func TestTurnedBits(t *testing.T) {
	r := rand.New(rand.NewSource(30))
	for _, x := range few() {
		p := generate(t, x.old, x.next)
		for bit := range 8 * len(p) {
			q := turned(p, bit)
			wantRefused(t, justFor(x), fewCuts(r, q)...)
			// With room behind the image a greater length of it is not refused for its size.
			wantRefused(t, device{x.old, 64}, [][]byte{q})
		}
	}
}

// turned gives bytes with one bit turned.
func turned(p []byte, bit int) []byte {
	q := slices.Clone(p)
	q[bit/8] ^= 1 << (bit % 8)
	return q
}

// P5, P6, P8: a turned bit of long patches: each one of the first bytes and of the last ones, and one of each byte between.
func TestTurnedBitsOfLongPatches(t *testing.T) {
	for _, x := range longPairs() {
		p := generate(t, x.old, x.next)
		for i := range p {
			for bit := range 8 {
				if i < 20 || i >= len(p)-20 || bit == i%8 {
					wantRefused(t, justFor(x), [][]byte{turned(p, 8*i+bit)})
				}
			}
		}
	}
}

// P5: a bit that is turned at the end alone is seen behind all pages, and they are not committed.
func TestTurnedAtTheEnd(t *testing.T) {
	for _, x := range pairs() {
		p := generate(t, x.old, x.next)
		d := justFor(x)
		wantError(t, "the last bit turned", d, api.ErrPatch, [][]byte{turned(p, 8*len(p)-8)})
	}
}

// P5: another byte at any place.
func TestOtherBytes(t *testing.T) {
	for _, x := range few() {
		p := generate(t, x.old, x.next)
		for i := range p {
			for add := 1; add < 256; add += 1 + i%3 {
				q := slices.Clone(p)
				q[i] += byte(add)
				wantRefused(t, justFor(x), [][]byte{q})
			}
		}
	}
}

// P1, P5, P6, P8: any bytes are refused, however they are cut.
func TestAnyBytes(t *testing.T) {
	r := rand.New(rand.NewSource(6))
	for _, x := range few() {
		for range 700 {
			wantRefused(t, justFor(x), fewCuts(r, some(r, r.Intn(60), 1+r.Intn(256)))...)
		}
		wantRefused(t, justFor(x), waysToCut(r, some(r, 20000, 256))...)
		for b := range 256 {
			for _, n := range []int{1, 2, 15, 23, 24, 100, 5000} {
				row := bytes.Repeat([]byte{byte(b)}, n)
				wantRefused(t, justFor(x), [][]byte{row}, slices.Collect(slices.Chunk(row, 7)))
			}
		}
	}
}

// P1, P5, P6, P8: patches with bytes put in, taken out, written over and moved are refused, however they are cut.
func TestSpoiltPatches(t *testing.T) {
	r := rand.New(rand.NewSource(31))
	for _, x := range few() {
		p := generate(t, x.old, x.next)
		for range 700 {
			if q := spoilt(r, p); !bytes.Equal(q, p) {
				wantRefused(t, justFor(x), fewCuts(r, q)...)
			}
		}
	}
}

// spoilt takes the bytes of a patch up to one place and from another on, with any bytes between.
func spoilt(r *rand.Rand, p []byte) []byte {
	from, to := r.Intn(len(p)+1), r.Intn(len(p)+1)
	between := some(r, r.Intn(30), 256)
	switch r.Intn(4) {
	case 0:
		between = nil
	case 1:
		to = min(from+len(between), len(p))
	case 2:
		to = from
	}
	return slices.Concat(p[:from], between, p[to:])
}

// P5: the beginning of one patch and the end of another one for the same image.
func TestMixedPatches(t *testing.T) {
	r := rand.New(rand.NewSource(32))
	old := count()
	d := device{old, 8}
	p, q := generate(t, old, slices.Concat(old[:100], []byte("one"), old[100:])), generate(t, old, slices.Concat(old[:100], []byte("two"), old[100:]))
	if len(p) != len(q) {
		t.Fatalf("patches of %d and %d bytes", len(p), len(q))
	}
	for i := range p {
		mixed := slices.Concat(p[:i], q[i:])
		if !bytes.Equal(mixed, p) && !bytes.Equal(mixed, q) {
			wantRefused(t, d, fewCuts(r, mixed)...)
		}
	}
}

// P1, P5: parts that nobody made, under a right head and a right seal, write beyond neither slot.
func TestAnyParts(t *testing.T) {
	r := rand.New(rand.NewSource(7))
	for _, x := range few() {
		for range 3000 {
			size := r.Intn(len(x.next) + 1)
			f := flash(x)
			row := layout.Wrap(x.old, size, some(r, r.Intn(60), 256))
			if _, err := apply(f, row); err != nil {
				wantRefused(t, justFor(x), fewCuts(r, row)...)
			} else if b, ok := f.Image(); !ok || len(b) != size {
				t.Fatalf("no error, but %d bytes are committed: %v", len(b), ok)
			}
		}
	}
}

// P5: parts that stand beyond an image.
func TestPartsBeyond(t *testing.T) {
	old := count()[:100]
	for _, part := range []layout.Part{
		{Kind: layout.Keep, Size: 101},
		{Kind: layout.Copy, At: 1, Size: 100},
		{Kind: layout.Copy, At: 65535, Size: 1},
		{Kind: layout.Keep, Size: 129},
		{Kind: layout.Fresh, Size: 129},
		{Kind: layout.Fresh + 1, Size: 1},
	} {
		row := layout.Wrap(old, 128, layout.AppendPart(nil, part, make([]byte, 129)))
		wantError(t, "a part beyond an image", device{old, 2}, api.ErrPatch, [][]byte{row}, slices.Collect(slices.Chunk(row, 1)))
	}
}

// P5: a head that tells another length of the patch, under a right seal.
func TestOtherTotal(t *testing.T) {
	r := rand.New(rand.NewSource(33))
	for _, x := range few() {
		p := generate(t, x.old, x.next)
		body := p[:len(p)-layout.SumSize]
		for bit := 8 * 13; bit < 8*15; bit++ {
			q := turned(body, bit)
			sum := uint64(layout.Start.AddAll(q))
			wantRefused(t, justFor(x), fewCuts(r, binary.BigEndian.AppendUint64(q, sum))...)
		}
	}
}
