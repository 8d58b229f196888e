package firmware_test

import (
	"bytes"
	"math/rand"
	"slices"
	"testing"

	"firmware/api"
	"firmware/firmware"
)

// count is the bytes 0 to 255.
func count() []byte {
	b := make([]byte, 256)
	for i := range b {
		b[i] = byte(i)
	}
	return b
}

// some makes bytes of so many kinds.
func some(r *rand.Rand, size, kinds int) []byte {
	b := make([]byte, size)
	for i := range b {
		b[i] = byte(r.Intn(kinds))
	}
	return b
}

// pair is an old image and a new one.
type pair struct{ old, next []byte }

// pairs makes images of all lengths that are edges, and of some others, more or less alike.
func pairs() []pair {
	r := rand.New(rand.NewSource(1))
	var l []pair
	for _, n := range []int{0, 1, 31, 32, 33, 63, 64, 65, 127, 128, 129, 1000, 4095, 4096} {
		old := some(r, n, 256)
		for _, m := range []int{0, 1, 64, 65, 4096} {
			l = append(l, pair{old, some(r, m, 256)})
		}
		turned := slices.Clone(old)
		for i := 0; i < n; i += 1 + r.Intn(200) {
			turned[i]++
		}
		l = append(l, pair{old, old}, pair{old, turned}, pair{old, slices.Concat(old[n/2:], old[:n/2])}, pair{old, make([]byte, n)}, pair{make([]byte, n), old})
	}
	for range 60 {
		old := some(r, r.Intn(600), 1+r.Intn(5))
		l = append(l, pair{old, some(r, r.Intn(600), 1+r.Intn(5))}, pair{old, slices.Concat(old[len(old)/3:], some(r, r.Intn(80), 9), old[:len(old)/2])})
	}
	return l
}

// generate makes a patch of images that are not too long.
func generate(t *testing.T, old, next []byte) []byte {
	t.Helper()
	p, err := firmware.Generate(old, next)
	if err != nil {
		t.Fatalf("Generate of %d and %d bytes: %v", len(old), len(next), err)
	}
	return p
}

// flash makes one with just enough pages for both images.
func flash(x pair) *api.Flash {
	return api.NewFlash(x.old, (len(x.next)+api.PageSize-1)/api.PageSize)
}

// apply feeds chunks; the first error.
func apply(f *api.Flash, chunks ...[]byte) (*firmware.Applier, error) {
	a := firmware.New(f)
	if err := feedAll(a, chunks); err != nil {
		return a, err
	}
	return a, a.Finish()
}

// wantImage asks that an image is committed.
func wantImage(t *testing.T, f *api.Flash, want []byte) {
	t.Helper()
	if b, ok := f.Image(); !ok || !bytes.Equal(b, want) {
		t.Fatalf("committed: %v, %d bytes; want %d bytes", ok, len(b), len(want))
	}
}

// wantTell asks for an error by its number.
func wantTell(t *testing.T, what string, err error, want api.Errno) {
	t.Helper()
	if n := api.Tell(err); n != want {
		t.Fatalf("%s: error %d, want %d", what, n, want)
	}
}

// wantNothing asks that nothing is committed, and that the old image is as it was.
func wantNothing(t *testing.T, f *api.Flash, old []byte) {
	t.Helper()
	if _, ok := f.Image(); ok {
		t.Fatal("the new slot is committed")
	}
	if !bytes.Equal(f.Old(), old) {
		t.Fatal("the old image is not as it was")
	}
}

// roomy gives the same bytes with room behind them, which is full of one byte.
func roomy(b []byte) []byte {
	r := bytes.Repeat([]byte{0xA5}, len(b)+40)
	copy(r, b)
	return r[:len(b)]
}

// wantRoomy asks that neither the bytes nor the room behind them were written into.
func wantRoomy(t *testing.T, what string, b, want []byte) {
	t.Helper()
	if !bytes.Equal(b[:len(want)+40], slices.Concat(want, bytes.Repeat([]byte{0xA5}, 40))) {
		t.Fatalf("%s was written into", what)
	}
}
