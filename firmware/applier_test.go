package firmware_test

import (
	"bytes"
	"errors"
	"math/rand"
	"slices"
	"testing"

	"firmware/api"
	"firmware/firmware"
)

// cuts cuts a patch anywhere, into empty chunks too.
func cuts(r *rand.Rand, p []byte) [][]byte {
	var l [][]byte
	for len(p) > 0 {
		n := min(r.Intn(1+r.Intn(200)), len(p))
		l = append(l, p[:n])
		p = p[n:]
	}
	return append(l, nil)
}

// P5: a right patch leads to the new image, however it was cut.
func TestRightPatches(t *testing.T) {
	r := rand.New(rand.NewSource(2))
	for _, x := range pairs() {
		p := generate(t, x.old, x.next)
		for _, chunks := range [][][]byte{{p}, {nil, p, {}}, slices.Collect(slices.Chunk(p, 1)), cuts(r, p), cuts(r, p)} {
			f := flash(x)
			_, err := apply(f, chunks...)
			wantTell(t, "applied", err, api.OK)
			wantImage(t, f, x.next)
			if !bytes.Equal(f.Old(), x.old) {
				t.Fatal("the old image is not as it was")
			}
		}
	}
}

// P5: nothing is committed ahead of Finish.
func TestFeedCommitsNothing(t *testing.T) {
	for _, x := range pairs() {
		f := flash(x)
		a := firmware.New(f)
		wantTell(t, "Feed", a.Feed(generate(t, x.old, x.next)), api.OK)
		wantNothing(t, f, x.old)
		wantTell(t, "Finish", a.Finish(), api.OK)
		wantImage(t, f, x.next)
	}
}

// P5: a slot may have more pages than the image needs.
func TestRoomySlot(t *testing.T) {
	old, next := count()[:70], count()[9:90]
	f := api.NewFlash(old, 64)
	_, err := apply(f, generate(t, old, next))
	wantTell(t, "applied", err, api.OK)
	wantImage(t, f, next)
}

// P5: one device after the other, from image to image.
func TestChainOfImages(t *testing.T) {
	r := rand.New(rand.NewSource(5))
	image := some(r, 900, 256)
	for range 20 {
		at := r.Intn(len(image))
		next := slices.Concat(image[at:], some(r, r.Intn(50), 256), image[:at])
		f := api.NewFlash(image, 64)
		_, err := apply(f, generate(t, image, next))
		wantTell(t, "applied", err, api.OK)
		image, _ = f.Image()
		if !bytes.Equal(image, next) {
			t.Fatal("another image")
		}
	}
}

// P2: a chunk is neither written into nor kept.
func TestFeedKeepsChunks(t *testing.T) {
	for _, x := range pairs() {
		f := flash(x)
		a := firmware.New(f)
		for c := range slices.Chunk(generate(t, x.old, x.next), 5) {
			chunk := roomy(c)
			wantTell(t, "Feed", a.Feed(chunk), api.OK)
			wantRoomy(t, "a chunk", chunk, c)
			clear(chunk[:cap(chunk)])
		}
		wantTell(t, "Finish", a.Finish(), api.OK)
		wantImage(t, f, x.next)
	}
}

// P2: two appliers share nothing.
func TestTwoAppliers(t *testing.T) {
	x, y := pair{count(), count()[30:]}, pair{count()[7:], []byte("another")}
	f, g := flash(x), flash(y)
	a, b := firmware.New(f), firmware.New(g)
	p, q := generate(t, x.old, x.next), generate(t, y.old, y.next)
	for i := range max(len(p), len(q)) {
		wantTell(t, "Feed", a.Feed(p[min(i, len(p)):min(i+1, len(p))]), api.OK)
		wantTell(t, "Feed", b.Feed(q[min(i, len(q)):min(i+1, len(q))]), api.OK)
	}
	wantTell(t, "Finish", a.Finish(), api.OK)
	wantTell(t, "Finish", b.Finish(), api.OK)
	wantImage(t, f, x.next)
	wantImage(t, g, y.next)
}

// still asks that later calls answer an error, and do nothing.
func still(t *testing.T, f *api.Flash, a *firmware.Applier, want api.Errno) {
	t.Helper()
	events := f.Events()
	reads, _ := f.Reads()
	for _, chunk := range [][]byte{{1}, nil, count(), {}} {
		wantTell(t, "a later Feed", a.Feed(chunk), want)
		wantTell(t, "a later Finish", a.Finish(), want)
	}
	if n, _ := f.Reads(); n != reads || !slices.Equal(f.Events(), events) {
		t.Fatal("later calls did something")
	}
}

// P6: all is done behind a Finish that answered nil.
func TestDone(t *testing.T) {
	for _, x := range pairs() {
		f := flash(x)
		p := generate(t, x.old, x.next)
		a, err := apply(f, p)
		wantTell(t, "applied", err, api.OK)
		still(t, f, a, api.ErrDone)
		wantTell(t, "the patch again", a.Feed(p), api.ErrDone)
		wantImage(t, f, x.next)
	}
}

// P6: an error stays, whichever it is.
func TestErrorStays(t *testing.T) {
	x := pair{count()[:60], count()[:200]}
	p := generate(t, x.old, x.next)
	spoilt := slices.Clone(p)
	spoilt[len(p)-1] ^= 1
	for _, c := range []struct {
		old  []byte
		size int
		fed  []byte
		want api.Errno
	}{
		{x.old, 4, nil, api.ErrShort},
		{x.old, 4, p[:len(p)-1], api.ErrShort},
		{x.old, 4, slices.Concat(p, []byte{0}), api.ErrEnd},
		{x.old, 4, spoilt, api.ErrPatch},
		{x.old, 2, p, api.ErrSize},
		{count()[:61], 4, p, api.ErrOld},
	} {
		f := api.NewFlash(c.old, c.size)
		a, err := apply(f, c.fed)
		wantTell(t, "applied", err, c.want)
		still(t, f, a, c.want)
		wantTell(t, "the right patch", a.Feed(p), c.want)
		wantNothing(t, f, c.old)
	}
}

// P2: an error that was written into is told as it was.
func TestErrorsAreFresh(t *testing.T) {
	a, err := apply(api.NewFlash(nil, 1))
	for range 3 {
		wantTell(t, "an error", err, api.ErrShort)
		var fault *api.Fault
		if errors.As(err, &fault) {
			fault.Err, fault.At = api.OK, -5
		}
		err = a.Feed(nil)
	}
}
