package firmware_test

import (
	"bytes"
	"encoding/binary"
	"math/rand"
	"slices"
	"testing"

	"firmware/api"
	"firmware/layout"
)

// wantWrong asks that bytes are refused, however they are cut.
func wantWrong(t *testing.T, x pair, fed []byte) {
	t.Helper()
	var first api.Errno
	for i, chunks := range [][][]byte{{fed}, slices.Collect(slices.Chunk(fed, 1))} {
		f := flash(x)
		_, err := apply(f, chunks...)
		n := api.Tell(err)
		if n < api.ErrPatch || n > api.ErrEnd {
			t.Fatalf("wrong bytes: error %d", n)
		}
		if i > 0 && n != first {
			t.Fatalf("cut otherwise: errors %d and %d", first, n)
		}
		first = n
		wantNothing(t, f, x.old)
	}
}

// few are pairs with patches that are not long.
func few() []pair {
	old := count()
	return []pair{{nil, nil}, {nil, old[:3]}, {old, nil}, {old, old}, {old[:60], old[:130]}, {old, slices.Concat(old[128:], []byte("more"), old[:128])}}
}

// P5: a turned bit is always seen.
func TestTurnedBits(t *testing.T) {
	for _, x := range few() {
		p := generate(t, x.old, x.next)
		for i := range p {
			for bit := range 8 {
				p[i] ^= 1 << bit
				wantWrong(t, x, p)
				p[i] ^= 1 << bit
			}
		}
	}
}

// P1, P5: any bytes are refused, and none panics.
func TestAnyBytes(t *testing.T) {
	r := rand.New(rand.NewSource(6))
	for _, x := range few() {
		p := generate(t, x.old, x.next)
		for range 1500 {
			q := slices.Concat(p[:r.Intn(len(p)+1)], some(r, 1+r.Intn(30), 256), p[r.Intn(len(p)+1):])
			if !bytes.Equal(q, p) {
				wantWrong(t, x, q)
			}
			wantWrong(t, x, some(r, r.Intn(60), 256))
		}
	}
}

// P1, P5: parts that nobody made, under a right head and a right seal, write beyond neither slot.
func TestAnyParts(t *testing.T) {
	r := rand.New(rand.NewSource(7))
	for _, x := range few() {
		for range 3000 {
			size := r.Intn(len(x.next) + 1)
			f := flash(x)
			_, err := apply(f, layout.Wrap(x.old, size, some(r, r.Intn(60), 256)))
			if err != nil {
				if n := api.Tell(err); n < api.ErrPatch || n > api.ErrEnd {
					t.Fatalf("wrong parts: error %d", n)
				}
				wantNothing(t, f, x.old)
			} else if b, ok := f.Image(); !ok || len(b) != size {
				t.Fatalf("no error, but %d bytes are committed: %v", len(b), ok)
			}
		}
	}
}

// P5: parts that stand beyond an image.
func TestPartsBeyond(t *testing.T) {
	old := count()[:100]
	for _, part := range []layout.Part{
		{Kind: layout.Keep, Size: 101},
		{Kind: layout.Copy, At: 1, Size: 100},
		{Kind: layout.Copy, At: 65535, Size: 1},
		{Kind: layout.Keep, Size: 129},
		{Kind: layout.Fresh, Size: 129},
		{Kind: layout.Fresh + 1, Size: 1},
	} {
		f := api.NewFlash(old, 2)
		_, err := apply(f, layout.Wrap(old, 128, layout.AppendPart(nil, part, make([]byte, 129))))
		wantTell(t, "a part beyond an image", err, api.ErrPatch)
		wantNothing(t, f, old)
	}
}

// P5: a head that tells another length of the patch, under a right seal.
func TestOtherTotal(t *testing.T) {
	for _, x := range few() {
		p := generate(t, x.old, x.next)
		body := p[:len(p)-layout.SumSize]
		for bit := range 8 {
			q := slices.Clone(body)
			q[14] ^= 1 << bit
			sum := uint64(layout.Start.AddAll(q))
			wantWrong(t, x, binary.BigEndian.AppendUint64(q, sum))
		}
	}
}

// P5: too few bytes and too many.
func TestShortAndEnd(t *testing.T) {
	for _, x := range few() {
		p := generate(t, x.old, x.next)
		for n := range p {
			f := flash(x)
			a, err := apply(f, p[:n])
			wantTell(t, "too few bytes", err, api.ErrShort)
			wantTell(t, "Finish again", a.Finish(), api.ErrShort)
			wantNothing(t, f, x.old)
		}
		for _, more := range [][]byte{{0}, {255}, p, count()} {
			f := flash(x)
			_, err := apply(f, p, more)
			wantTell(t, "more bytes", err, api.ErrEnd)
			wantNothing(t, f, x.old)
		}
	}
}

// P5: a patch for another old image, ahead of all else that is wrong.
func TestOtherOldImage(t *testing.T) {
	old, next := count(), slices.Concat(count(), count())
	p := generate(t, old, next)
	others := [][]byte{nil, old[:255], old[1:], slices.Concat(old, []byte{0})}
	for i := range old {
		b := slices.Clone(old)
		b[i] ^= 1 << (i % 8)
		others = append(others, b)
	}
	for _, other := range others {
		for _, chunks := range [][][]byte{{p}, {p, {1}}} {
			f := api.NewFlash(other, 8)
			_, err := apply(f, chunks...)
			wantTell(t, "another old image", err, api.ErrOld)
			f = api.NewFlash(other, 1)
			_, err = apply(f, chunks...)
			wantTell(t, "another old image, and too small a slot", err, api.ErrOld)
			wantNothing(t, f, other)
		}
	}
}

// P5: an image that is too long for the slot.
func TestTooSmallSlot(t *testing.T) {
	old := count()[:60]
	for _, n := range []int{129, 200, 4096} {
		p := generate(t, old, make([]byte, n))
		for _, chunks := range [][][]byte{{p}, {p, {1}}} {
			f := api.NewFlash(old, 2)
			_, err := apply(f, chunks...)
			wantTell(t, "too small a slot", err, api.ErrSize)
			wantNothing(t, f, old)
		}
	}
	f := api.NewFlash(old, 2)
	_, err := apply(f, generate(t, old, make([]byte, 128)))
	wantTell(t, "a slot that is full", err, api.OK)
	wantImage(t, f, make([]byte, 128))
}
