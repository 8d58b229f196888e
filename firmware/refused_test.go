package firmware_test

import (
	"errors"
	"math/rand"
	"slices"
	"testing"

	"firmware/api"
	"firmware/firmware"
)

// device is what a flash is made of.
type device struct {
	old   []byte
	pages int
}

func (d device) flash() *api.Flash { return api.NewFlash(d.old, d.pages) }

// justFor is a device with just enough pages for both images.
func justFor(x pair) device {
	return device{x.old, (len(x.next) + api.PageSize - 1) / api.PageSize}
}

// fewCuts cuts bytes in a few ways: not at all, at each byte, anywhere.
func fewCuts(r *rand.Rand, p []byte) [][][]byte {
	return [][][]byte{{p}, slices.Collect(slices.Chunk(p, 1)), cuts(r, p)}
}

// refused applies chunks that are no right patch, and tells their error. It asks for what holds of all of them: an error of P5, told in one of the ways that errors have; nothing is committed; P6; P8.
func refused(t *testing.T, d device, chunks ...[]byte) api.Errno {
	t.Helper()
	f := d.flash()
	a := firmware.New(f)
	err := feedAll(a, chunks)
	byFeed := err != nil
	if !byFeed {
		err = a.Finish()
	}
	told := api.Tell(err)
	if told < api.ErrPatch || told > api.ErrEnd {
		t.Fatalf("wrong bytes: error %d", told)
	}
	if told == api.ErrShort && byFeed {
		t.Fatal("Feed cannot know that bytes are missing")
	}
	wantValue(t, err)
	wantNothing(t, f, d.old)
	wantPagesBegun(t, f)
	still(t, f, a, told)
	wantNothing(t, f, d.old)
	return told
}

// feedAll feeds chunks up to the first error.
func feedAll(a *firmware.Applier, chunks [][]byte) error {
	for _, c := range chunks {
		if err := a.Feed(c); err != nil {
			return err
		}
	}
	return nil
}

// wantValue asks that an error is an api.Errno, or an *api.Fault with one within it.
func wantValue(t *testing.T, err error) {
	t.Helper()
	if fault, ok := err.(*api.Fault); ok {
		err = errors.Unwrap(fault)
	}
	if _, ok := err.(api.Errno); !ok {
		t.Fatalf("an error of type %T", err)
	}
}

// wantPagesBegun asks that pages were written in their order, as far as they were, and that no more was done.
func wantPagesBegun(t *testing.T, f *api.Flash) {
	t.Helper()
	l, all := f.Events(), pageEvents(f.Pages())
	if len(l) > len(all) || !slices.Equal(l, all[:len(l)]) {
		t.Fatalf("beside an error: %v", l)
	}
}

// wantRefused asks that bytes are refused with the same error however they are cut, and tells it.
func wantRefused(t *testing.T, d device, ways ...[][]byte) api.Errno {
	t.Helper()
	first := api.OK
	for i, chunks := range ways {
		told := refused(t, d, chunks...)
		if i > 0 && told != first {
			t.Fatalf("cut otherwise: errors %d and %d", first, told)
		}
		first = told
	}
	return first
}

// wantError asks that bytes are refused with this error, however they are cut.
func wantError(t *testing.T, what string, d device, want api.Errno, ways ...[][]byte) {
	t.Helper()
	if told := wantRefused(t, d, ways...); told != want {
		t.Fatalf("%s: error %d, want %d", what, told, want)
	}
}
