package firmware_test

import (
	"slices"
	"testing"

	"firmware/api"
	"firmware/firmware"
)

// events tells what must be done to the new slot for an image of so many bytes.
func events(size int) []api.Event {
	var l []api.Event
	for p := range (size + api.PageSize - 1) / api.PageSize {
		l = append(l, api.Event{Kind: api.Erase, Page: p}, api.Event{Kind: api.Program, Page: p})
	}
	return append(l, api.Event{Kind: api.Commit, Page: size})
}

// Pages are written in their order, each once.
func TestPagesInOrder(t *testing.T) {
	for _, x := range pairs() {
		f := flash(x)
		a := firmware.New(f)
		for piece := range firmware.Pieces(generate(t, x.old, x.next), 3) {
			wantTell(t, "Feed", a.Feed(piece), api.OK)
		}
		wantTell(t, "Finish", a.Finish(), api.OK)
		if l := f.Events(); !slices.Equal(l, events(len(x.next))) {
			t.Fatalf("an image of %d bytes: %v", len(x.next), l)
		}
	}
}

// The power may be cut anywhere: the old image stays, and the patch can be applied again.
func TestPowerCut(t *testing.T) {
	for _, x := range few() {
		p := generate(t, x.old, x.next)
		for after := 0; ; after++ {
			f := flash(x)
			f.Cut(after, byte(after*37))
			a, err := apply(f, p)
			if err == nil {
				wantImage(t, f, x.next)
				break
			}
			wantTell(t, "without power", err, api.ErrPower)
			wantNothing(t, f, x.old)
			f.Restore()
			still(t, f, a, api.ErrPower)
			_, err = apply(f, p)
			wantTell(t, "applied again", err, api.OK)
			wantImage(t, f, x.next)
		}
	}
}
