package firmware_test

import (
	"bytes"
	"math/rand"
	"slices"
	"testing"

	"firmware/api"
)

// P5: a patch at each of its lengths short of the whole, however it is cut.
func TestShort(t *testing.T) {
	r := rand.New(rand.NewSource(34))
	for _, x := range few() {
		p := generate(t, x.old, x.next)
		for n := range p {
			wantError(t, "too few bytes", justFor(x), api.ErrShort, fewCuts(r, p[:n])...)
			wantError(t, "too few bytes, much room", device{x.old, 64}, api.ErrShort, [][]byte{p[:n]})
		}
	}
}

// P5: long patches, of which more or less is missing.
func TestShortOfLongPatches(t *testing.T) {
	for _, x := range append(pairs(), longPairs()...) {
		p := generate(t, x.old, x.next)
		for n := 0; n < len(p); n += 1 + len(p)/30 {
			wantError(t, "too few bytes", justFor(x), api.ErrShort, [][]byte{p[:n]})
		}
		wantError(t, "the last byte is missing", justFor(x), api.ErrShort, [][]byte{p[:len(p)-1]}, slices.Collect(slices.Chunk(p[:len(p)-1], 100)))
	}
}

// P5: nothing at all is a patch but for its end, for any old image and any slot.
func TestShortOfNothing(t *testing.T) {
	for _, d := range []device{{nil, 0}, {nil, 64}, {count(), 4}, {make([]byte, 4096), 64}} {
		wantError(t, "no bytes", d, api.ErrShort, nil, [][]byte{nil}, [][]byte{{}, nil, {}})
	}
}

// P5: one byte more, of each kind, in the chunk of the patch's last bytes or in one of its own.
func TestOneByteMore(t *testing.T) {
	for _, x := range few() {
		p := generate(t, x.old, x.next)
		for b := range 256 {
			more := []byte{byte(b)}
			whole := slices.Concat(p, more)
			wantError(t, "one byte more", justFor(x), api.ErrEnd, [][]byte{whole}, [][]byte{p, more}, [][]byte{p, nil, more, {}}, slices.Collect(slices.Chunk(whole, 2)))
		}
	}
}

// P5: many bytes more, right patches among them.
func TestManyBytesMore(t *testing.T) {
	r := rand.New(rand.NewSource(35))
	for _, x := range append(few(), longPairs()...) {
		p := generate(t, x.old, x.next)
		for _, more := range [][]byte{p, p[:len(p)-1], p[1:], make([]byte, 2), bytes.Repeat([]byte{255}, 100000), some(r, 5000, 256), generate(t, x.next, x.old)} {
			whole := slices.Concat(p, more)
			wantError(t, "many bytes more", justFor(x), api.ErrEnd, [][]byte{whole}, [][]byte{p, more}, cuts(r, whole))
		}
	}
}

// P5: a patch that is too short and also for another image, or too long for the slot: ErrOld and ErrSize go ahead, as soon as enough of it is there to tell them.
func TestShortAndElseWrong(t *testing.T) {
	r := rand.New(rand.NewSource(42))
	x := pair{count()[:60], count()[:200]}
	p := generate(t, x.old, x.next)
	for _, c := range []struct {
		d    device
		want api.Errno
	}{
		{device{count()[:61], 4}, api.ErrOld},
		{device{turned(x.old, 99), 4}, api.ErrOld},
		{device{turned(x.old, 99), 2}, api.ErrOld},
		{device{x.old, 2}, api.ErrSize},
	} {
		known := false
		for n := range p {
			told := wantRefused(t, c.d, fewCuts(r, p[:n])...)
			if told != c.want && (known || told != api.ErrShort) {
				t.Fatalf("%d bytes: error %d, want %d", n, told, c.want)
			}
			known = told == c.want
		}
		if !known {
			t.Fatalf("without the last byte: want error %d", c.want)
		}
	}
}
