package firmware_test

import (
	"math/rand"
	"slices"
	"testing"

	"firmware/api"
	"firmware/firmware"
)

// pageEvents tells what must be done to so many pages of the new slot.
func pageEvents(pages int) []api.Event {
	var l []api.Event
	for p := range pages {
		l = append(l, api.Event{Kind: api.Erase, Page: p}, api.Event{Kind: api.Program, Page: p})
	}
	return l
}

// events tells what must be done to the new slot for an image of so many bytes.
func events(size int) []api.Event {
	return append(pageEvents((size+api.PageSize-1)/api.PageSize), api.Event{Kind: api.Commit, Page: size})
}

// wantEvents asks that just this was done to the new slot.
func wantEvents(t *testing.T, what string, f *api.Flash, want []api.Event) {
	t.Helper()
	if l := f.Events(); !slices.Equal(l, want) {
		t.Fatalf("%s: %v", what, l)
	}
}

// P8: pages are written in their order, each once, and the image's length is committed, however the patch is cut.
func TestPagesInOrder(t *testing.T) {
	r := rand.New(rand.NewSource(40))
	for _, x := range pairs() {
		for _, chunks := range fewCuts(r, generate(t, x.old, x.next)) {
			f := flash(x)
			_, err := apply(f, chunks...)
			wantTell(t, "applied", err, api.OK)
			wantEvents(t, "applied", f, events(len(x.next)))
		}
	}
}

// P8: images that need no page, just whole pages, a byte less and a byte more, on slots with room behind them too.
func TestPagesOfEdges(t *testing.T) {
	r := rand.New(rand.NewSource(41))
	for _, size := range []int{0, 1, 63, 64, 65, 127, 128, 129, 4031, 4032, 4033, 4095, 4096} {
		for _, x := range []pair{{nil, some(r, size, 256)}, {count(), make([]byte, size)}, {make([]byte, size), make([]byte, size)}, {make([]byte, 4096), make([]byte, size)}} {
			for _, d := range []device{justFor(x), {x.old, 64}} {
				f := d.flash()
				_, err := apply(f, generate(t, x.old, x.next))
				wantTell(t, "applied", err, api.OK)
				wantEvents(t, "applied", f, events(size))
				wantImage(t, f, x.next)
			}
		}
	}
}

// P8: at each byte no more than pages in their order were written; Commit is done in Finish alone, and again by no later call.
func TestCommitInFinish(t *testing.T) {
	for _, x := range append(few(), longPairs()...) {
		f := flash(x)
		a := firmware.New(f)
		wantEvents(t, "New", f, nil)
		for piece := range firmware.Pieces(generate(t, x.old, x.next), 1) {
			wantTell(t, "Feed", a.Feed(piece), api.OK)
			wantPagesBegun(t, f)
		}
		wantTell(t, "Feed of nothing", a.Feed(nil), api.OK)
		wantPagesBegun(t, f)
		wantTell(t, "Finish", a.Finish(), api.OK)
		wantEvents(t, "Finish", f, events(len(x.next)))
		still(t, f, a, api.ErrDone)
		wantEvents(t, "behind Finish", f, events(len(x.next)))
	}
}

// P8: nothing is done behind an error that was told at any byte, though the right bytes follow.
func TestNothingBehindAnError(t *testing.T) {
	for _, x := range few() {
		p := generate(t, x.old, x.next)
		for i := range p {
			f := flash(x)
			a := firmware.New(f)
			wantTell(t, "Feed", a.Feed(p[:i]), api.OK)
			wantTell(t, "too early a Finish", a.Finish(), api.ErrShort)
			done := f.Events()
			wantTell(t, "the rest", a.Feed(p[i:]), api.ErrShort)
			wantTell(t, "Finish", a.Finish(), api.ErrShort)
			wantEvents(t, "behind an error", f, done)
			wantNothing(t, f, x.old)
		}
	}
}
