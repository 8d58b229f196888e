package firmware_test

import (
	"slices"
	"testing"

	"firmware/api"
	"firmware/plain"
)

// P5, P6, P8: the document's examples of appliers.
func TestExamples(t *testing.T) {
	old := count()

	f := api.NewFlash(nil, 0)
	a, err := apply(f, generate(t, nil, nil))
	wantTell(t, "nothing, from nothing", err, api.OK)
	wantImage(t, f, nil)
	wantEvents(t, "nothing, from nothing", f, []api.Event{{Kind: api.Commit, Page: 0}})
	wantTell(t, "Feed behind Finish", a.Feed(nil), api.ErrDone)
	wantTell(t, "Finish behind Finish", a.Finish(), api.ErrDone)

	f = api.NewFlash(old, 4)
	_, err = apply(f, generate(t, old, old[:65]))
	wantTell(t, "65 bytes", err, api.OK)
	wantEvents(t, "65 bytes", f, []api.Event{{Kind: api.Erase, Page: 0}, {Kind: api.Program, Page: 0}, {Kind: api.Erase, Page: 1}, {Kind: api.Program, Page: 1}, {Kind: api.Commit, Page: 65}})

	p := generate(t, old, old)
	wantError(t, "for another image", device{old[:255], 4}, api.ErrOld, [][]byte{p})
	wantError(t, "200 bytes on 2 pages", device{old[:60], 2}, api.ErrSize, [][]byte{generate(t, old[:60], old[:200])})
	wantError(t, "without its last byte", device{old, 4}, api.ErrShort, [][]byte{p[:len(p)-1]})
	wantError(t, "and one byte more", device{old, 4}, api.ErrEnd, [][]byte{p, {0}})
}

// P5: asked from outside, by package plain.
func TestPipe(t *testing.T) {
	old := count()
	next := slices.Concat(old[100:], []byte("more"), old[:100])
	for _, x := range []struct {
		flash     *api.Flash
		old, next []byte
		n         int
		want      api.Errno
	}{
		{api.NewFlash(old, 5), old, next, 1, api.OK},
		{api.NewFlash(old, 5), old, next, 1000, api.OK},
		{api.NewFlash(old, 5), old, next, 0, api.ErrShort},
		{api.NewFlash(old, 4), old, next, 7, api.ErrSize},
		{api.NewFlash(next, 5), old, next, 7, api.ErrOld},
		{api.NewFlash(old, 5), old, make([]byte, 4097), 7, api.ErrImage},
	} {
		if n := plain.Pipe(x.flash, x.old, x.next, x.n); n != x.want {
			t.Errorf("pieces of %d bytes: error %d, want %d", x.n, n, x.want)
		}
		if x.want == api.OK {
			wantImage(t, x.flash, x.next)
		} else if _, ok := x.flash.Image(); ok {
			t.Errorf("error %d, but it is committed", x.want)
		}
	}
}
