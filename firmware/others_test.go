package firmware_test

import (
	"fmt"
	"math/rand"
	"slices"
	"testing"

	"firmware/api"
)

// wantOld asks for ErrOld, whatever else is wrong too: the slot, or bytes behind the patch.
func wantOld(t *testing.T, other, p []byte) {
	t.Helper()
	for _, pages := range []int{0, 1, 8, 64} {
		d := device{other, pages}
		wantError(t, "another old image", d, api.ErrOld, [][]byte{p}, slices.Collect(slices.Chunk(p, 5)))
		wantError(t, "another old image, and bytes more", d, api.ErrOld, [][]byte{p, {1}}, [][]byte{slices.Concat(p, p)})
	}
}

// P5: a patch for an old image of which each single bit was turned.
func TestTurnedOldImage(t *testing.T) {
	old := count()
	for _, next := range [][]byte{nil, old, slices.Concat(old, old)} {
		p := generate(t, old, next)
		for bit := range 8 * len(old) {
			wantOld(t, turned(old, bit), p)
		}
	}
}

// P5: a patch for a long old image, of which single bits were turned.
func TestTurnedLongOldImage(t *testing.T) {
	for _, x := range longPairs() {
		p := generate(t, x.old, x.next)
		for bit := 0; bit < 8*len(x.old); bit += 61 {
			wantError(t, "a bit of the old image turned", device{turned(x.old, bit), 64}, api.ErrOld, [][]byte{p})
		}
	}
}

// P5: a patch for an old image of another length, which is else the same.
func TestOldImageOfOtherLength(t *testing.T) {
	for _, all := range [][]byte{count(), make([]byte, 256), slices.Repeat([]byte{255}, 256)} {
		for _, n := range []int{0, 1, 63, 64, 65, 128, 255} {
			for _, next := range [][]byte{nil, all[:n], slices.Concat(all, all)} {
				p := generate(t, all[:n], next)
				for _, m := range []int{0, 1, 2, 62, 63, 64, 65, 66, 127, 128, 129, 192, 254, 255, 256} {
					if m != n {
						wantOld(t, all[:m], p)
					}
				}
			}
		}
	}
}

// P5: images that have the same bytes in another order, or none alike.
func TestOldImageOfOtherBytes(t *testing.T) {
	r := rand.New(rand.NewSource(36))
	for range 300 {
		old := some(r, 1+r.Intn(300), 2+r.Intn(254))
		other := slices.Clone(old)
		r.Shuffle(len(other), func(i, k int) { other[i], other[k] = other[k], other[i] })
		p := generate(t, old, some(r, r.Intn(300), 256))
		if !slices.Equal(old, other) {
			wantOld(t, other, p)
		}
	}
}

// P5: the new image is none to begin from: a patch is not applied to it again.
func TestPatchAppliedAgain(t *testing.T) {
	for _, x := range pairs() {
		p := generate(t, x.old, x.next)
		if !slices.Equal(x.old, x.next) {
			wantError(t, "the patch again", device{x.next, 64}, api.ErrOld, [][]byte{p})
		}
	}
}

// P5: an image that just fits into the slot, and one of a byte more, on slots of each number of pages, none too.
func TestSlots(t *testing.T) {
	r := rand.New(rand.NewSource(37))
	for pages := range 65 {
		size := pages * api.PageSize
		for _, old := range [][]byte{nil, some(r, size, 256), make([]byte, max(size-3, 0))} {
			d := device{old, pages}
			next := some(r, size, 256)
			f := d.flash()
			_, err := apply(f, generate(t, old, next))
			wantTell(t, "an image that just fits", err, api.OK)
			wantImage(t, f, next)
			if pages < 64 {
				wantSize(t, d, generate(t, old, append(next, 7)))
			}
		}
	}
}

// wantSize asks for ErrSize, also if there are bytes behind the patch.
func wantSize(t *testing.T, d device, p []byte) {
	t.Helper()
	what := fmt.Sprint("too long an image for ", d.pages, " pages")
	wantError(t, what, d, api.ErrSize, [][]byte{p}, slices.Collect(slices.Chunk(p, 3)))
	wantError(t, what+", and bytes more", d, api.ErrSize, [][]byte{p, {1}}, [][]byte{slices.Concat(p, p)}, slices.Collect(slices.Chunk(slices.Concat(p, make([]byte, 300)), 11)))
}

// P5: images that are much too long for the slot, whatever they are made of.
func TestTooSmallSlots(t *testing.T) {
	old := count()[:60]
	for _, n := range []int{129, 130, 192, 200, 256, 4095, 4096} {
		wantSize(t, device{old, 2}, generate(t, old, make([]byte, n)))
		wantSize(t, device{old, 2}, generate(t, old, slices.Repeat(old, 100)[:n]))
	}
	wantSize(t, device{nil, 0}, generate(t, nil, []byte{1}))
	wantSize(t, device{nil, -5}, generate(t, nil, make([]byte, 4096)))
}
