package firmware_test

import (
	"bytes"
	"math/rand"
	"slices"
	"testing"

	"firmware/api"
)

// made is a new image that is made of pieces of an old one and of bytes more.
type made struct {
	old, next []byte
	pieces    int
	more      int
}

// piece takes a piece of the old image.
func (x *made) piece(at, size int) {
	x.next = append(x.next, x.old[at:at+size]...)
	x.pieces++
}

// bytes takes bytes that are no piece.
func (x *made) bytes(b []byte) {
	x.next = append(x.next, b...)
	x.more += len(b)
}

// fresh is a new image of which no piece is known.
func fresh(old, next []byte) *made {
	x := &made{old: old}
	x.bytes(next)
	return x
}

// most is the least of P3's bounds that hold for the images.
func (x *made) most() int {
	n := len(x.next)
	most := min(n+n/100+64, 64+16*x.pieces+2*x.more)
	if len(x.old) != n {
		return most
	}
	k := 0
	for i := range x.old {
		if x.old[i] != x.next[i] {
			k++
		}
	}
	return min(most, 64+4*k)
}

// wantShort asks that the patch is not long, and that it is one.
func wantShort(t *testing.T, what string, x *made) {
	t.Helper()
	p := generate(t, x.old, x.next)
	if len(p) > x.most() {
		t.Errorf("%s: a patch of %d bytes, at most %d (images of %d and %d bytes, %d pieces, %d bytes more)", what, len(p), x.most(), len(x.old), len(x.next), x.pieces, x.more)
	}
	f := flash(pair{x.old, x.next})
	_, err := apply(f, p)
	wantTell(t, what, err, api.OK)
	wantImage(t, f, x.next)
}

// P3: the lengths that the examples name.
func TestLengthsOfExamples(t *testing.T) {
	old := count()
	turned := count()
	turned[100] ^= 1
	for _, x := range []struct {
		next []byte
		most int
	}{{old, 64}, {turned, 68}, {slices.Concat(old[128:], old[:128]), 96}} {
		if p := generate(t, old, x.next); len(p) > x.most {
			t.Errorf("a patch of %d bytes, at most %d", len(p), x.most)
		}
	}
}

// P3: a patch is hardly longer than the new image, whatever the old one is.
func TestLengthsOfAnyImages(t *testing.T) {
	r := rand.New(rand.NewSource(8))
	sizes := []int{0, 1, 2, 31, 32, 33, 63, 64, 65, 99, 100, 101, 199, 200, 1000, 2048, 4095, 4096}
	for _, old := range [][]byte{nil, {7}, count(), some(r, 4096, 256), some(r, 4096, 2), make([]byte, 4096)} {
		for _, n := range sizes {
			for _, kinds := range []int{1, 2, 20, 256} {
				wantShort(t, "any images", fresh(old, some(r, n, kinds)))
			}
		}
	}
	for _, x := range pairs() {
		wantShort(t, "any images", fresh(x.old, x.next))
	}
}

// P3: rows of the old image too short to be worth a part do not make a patch longer.
func TestLengthsOfShortRows(t *testing.T) {
	r := rand.New(rand.NewSource(9))
	old := some(r, 4096, 256)
	for size := 1; size <= 8; size++ {
		var next []byte
		for len(next) < 4000 {
			at := r.Intn(len(old) - size)
			next = append(append(next, old[at:at+size]...), byte(r.Intn(256)))
		}
		wantShort(t, "short rows", fresh(old, next))
	}
}

// turnedAt turns the bytes of an image for which it is asked.
func turnedAt(old []byte, turn func(at int) bool) []byte {
	next := slices.Clone(old)
	for i := range next {
		if turn(i) {
			next[i] ^= 0x55
		}
	}
	return next
}

// P3: images of one length, with no byte that differs, with some and with all.
func TestLengthsOfTurnedBytes(t *testing.T) {
	r := rand.New(rand.NewSource(10))
	for _, n := range []int{0, 1, 2, 31, 32, 33, 64, 65, 256, 4095, 4096} {
		for _, old := range [][]byte{some(r, n, 256), some(r, n, 2), make([]byte, n)} {
			turns := []func(at int) bool{
				func(int) bool { return false },
				func(int) bool { return true },
				func(at int) bool { return at == 0 },
				func(at int) bool { return at == n-1 },
				func(at int) bool { return at == n/2 },
				func(at int) bool { return at < n/2 },
				func(at int) bool { return at/100%2 == 0 },
				func(int) bool { return r.Intn(50) == 0 },
			}
			// From 33 and 66 on a kept part's size takes one byte more.
			for _, gap := range []int{2, 3, 4, 5, 6, 7, 32, 33, 34, 35, 66, 300} {
				turns = append(turns, func(at int) bool { return at%gap == gap-1 })
			}
			for _, turn := range turns {
				wantShort(t, "turned bytes", fresh(old, turnedAt(old, turn)))
			}
		}
	}
}

// oldImages are old images with a piece at least: of all bytes, of few, of the same again and again.
func oldImages() [][]byte {
	r := rand.New(rand.NewSource(11))
	return [][]byte{
		count(), count()[:32], count()[:33], make([]byte, 32), make([]byte, 4096),
		some(r, 32, 2), some(r, 4096, 256), some(r, 4096, 2), some(r, 700, 3),
		bytes.Repeat([]byte{1, 2, 3, 4, 5}, 800),
		bytes.Repeat(some(r, 31, 256), 100),
	}
}

// P3: one piece, with bytes ahead of it, behind it, both and none.
func TestLengthsOfOnePiece(t *testing.T) {
	for _, old := range oldImages() {
		n := len(old)
		for _, p := range [][2]int{{0, 32}, {n - 32, 32}, {0, n}, {(n - 32) / 2, 32}} {
			for ahead := range 4 {
				for behind := range 4 {
					x := &made{old: old}
					x.bytes([]byte{9, 200, 9}[:ahead])
					x.piece(p[0], min(p[1], 4000))
					x.bytes([]byte{200, 9, 200}[:behind])
					wantShort(t, "one piece", x)
				}
			}
		}
	}
}

// P3: pieces of just 32 bytes, in any order, with as many bytes between them as there are, till the image is full.
func TestLengthsOfLeastPieces(t *testing.T) {
	r := rand.New(rand.NewSource(12))
	for _, old := range oldImages() {
		for gap := range 6 {
			back, any, again := &made{old: old}, &made{old: old}, &made{old: old}
			at := len(old) - 32
			same := r.Intn(len(old) - 31)
			for len(any.next)+32+2*gap <= api.MaxImage {
				more := some(r, gap, 256)
				for _, x := range []*made{back, any, again} {
					x.bytes(more)
				}
				back.piece(at, 32)
				any.piece(r.Intn(len(old)-31), 32)
				again.piece(same, 32)
				at = (at + len(old) - 31 - min(32, len(old)-32)) % (len(old) - 31)
			}
			for _, x := range []*made{back, any, again} {
				x.bytes(some(r, gap, 256))
				wantShort(t, "pieces of 32 bytes", x)
			}
		}
	}
}

// P3: a piece again and again, of any size.
func TestLengthsOfOnePieceAgain(t *testing.T) {
	for _, old := range oldImages() {
		for _, size := range []int{32, 33, 64, 65, 100, len(old)} {
			if size > len(old) {
				continue
			}
			x := &made{old: old}
			for len(x.next)+size <= api.MaxImage {
				x.piece(len(old)-size, size)
			}
			wantShort(t, "a piece again", x)
		}
	}
}

// P3: any pieces, of any sizes, with few or many bytes ahead of, between and behind them.
func TestLengthsOfAnyPieces(t *testing.T) {
	r := rand.New(rand.NewSource(13))
	for i := range 100 {
		old := some(r, 32+r.Intn(4065), 2+r.Intn(255))
		x := &made{old: old}
		longest := 33 + r.Intn(400)
		for {
			at := r.Intn(len(old) - 31)
			size := min(32+r.Intn(longest), len(old)-at)
			more := some(r, r.Intn(1+i), 256)
			if len(x.next)+size+len(more) > api.MaxImage {
				break
			}
			x.bytes(more)
			x.piece(at, size)
		}
		x.bytes(some(r, min(r.Intn(1+i), api.MaxImage-len(x.next)), 256))
		wantShort(t, "any pieces", x)
	}
}

// P3: bytes more that stand behind another piece of the old image too, so that it is not clear where a piece is at its end.
func TestLengthsOfPiecesWithRowsOfOld(t *testing.T) {
	r := rand.New(rand.NewSource(14))
	for range 60 {
		old := some(r, 40+r.Intn(3000), 2+r.Intn(20))
		x := &made{old: old}
		for len(x.next) < 3900 {
			at := r.Intn(len(old) - 31)
			x.piece(at, 32)
			k := r.Intn(len(old) - 8)
			x.bytes(old[k : k+r.Intn(8)])
		}
		wantShort(t, "pieces with rows of the old image between them", x)
	}
}
