package firmware_test

import (
	"bytes"
	"runtime"
	"slices"
	"testing"
	"time"

	"firmware/api"
	"firmware/firmware"
)

// P3: images that are too long.
func TestGenerateTooLong(t *testing.T) {
	for _, x := range [][2]int{{4097, 0}, {0, 4097}, {4097, 4097}, {4096, 4097}, {4097, 4096}, {100000, 3}} {
		p, err := firmware.Generate(make([]byte, x[0]), make([]byte, x[1]))
		wantTell(t, "Generate", err, api.ErrImage)
		if p != nil {
			t.Errorf("P1: %v: a patch beside an error", x)
		}
	}
	if p, err := firmware.Generate(count(), make([]byte, 4097)); p != nil || api.Tell(err) != api.ErrImage {
		t.Errorf("%v", err)
	}
}

// P3: images of as many bytes as they may have, and of none.
func TestGenerateEdges(t *testing.T) {
	for _, x := range [][2]int{{4096, 4096}, {0, 4096}, {4096, 0}, {0, 0}} {
		generate(t, make([]byte, x[0]), make([]byte, x[1]))
	}
	p, q := generate(t, nil, nil), generate(t, []byte{}, []byte{})
	if !bytes.Equal(p, q) {
		t.Error("nil and an empty list are not the same image")
	}
}

// P1: what Generate starts has ended.
func TestGenerateLeavesNothingRunning(t *testing.T) {
	before := runtime.NumGoroutine()
	for _, x := range pairs() {
		generate(t, x.old, x.next)
	}
	firmware.Generate(make([]byte, 4097), nil)
	// One that has closed its channel may be counted for a moment yet.
	for range 100 {
		if runtime.NumGoroutine() <= before {
			return
		}
		time.Sleep(time.Millisecond)
	}
	t.Errorf("%d goroutines, %d before", runtime.NumGoroutine(), before)
}

// P2: nothing is written into, and patches are fresh and always the same.
func TestGenerateKeepsImages(t *testing.T) {
	for _, x := range pairs() {
		old, next := roomy(x.old), roomy(x.next)
		p := generate(t, old, next)
		q := slices.Clone(p)
		for i := range p {
			p[i] ^= 255
		}
		wantRoomy(t, "the old image", old, x.old)
		wantRoomy(t, "the new image", next, x.next)
		if !bytes.Equal(generate(t, x.old, x.next), q) {
			t.Fatal("another patch for the same images")
		}
	}
}

// P2: one image as both is read alone.
func TestGenerateOfOneListTwice(t *testing.T) {
	b := count()
	p := generate(t, b, b)
	f := api.NewFlash(b, 4)
	_, err := apply(f, p)
	wantTell(t, "applied", err, api.OK)
	wantImage(t, f, count())
}

// P1, P2: many at a time do not meet.
func TestGenerateManyAtATime(t *testing.T) {
	l := pairs()[:60]
	want := make([][]byte, len(l))
	for i, x := range l {
		want[i] = generate(t, x.old, x.next)
	}
	got := make(chan bool)
	for i, x := range l {
		go func() {
			p, err := firmware.Generate(x.old, x.next)
			got <- err == nil && bytes.Equal(p, want[i])
		}()
	}
	for range l {
		if !<-got {
			t.Error("another patch")
		}
	}
}
