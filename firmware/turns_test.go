package firmware_test

import (
	"math/rand"
	"slices"
	"testing"

	"firmware/api"
	"firmware/firmware"
)

// work is an applier that is being fed.
type work struct {
	d     device
	row   []byte
	want  api.Errno
	image []byte // what is to be committed

	flash *api.Flash
	a     *firmware.Applier
	fed   int
	told  api.Errno
	done  bool
}

// works are right patches and wrong ones of all kinds.
func works(t *testing.T) []*work {
	var l []*work
	add := func(d device, want api.Errno, image []byte, row ...[]byte) {
		l = append(l, &work{d: d, row: slices.Concat(row...), want: want, image: image})
	}
	for _, x := range append(few(), longPairs()...) {
		p := generate(t, x.old, x.next)
		d := justFor(x)
		add(d, api.OK, x.next, p)
		add(d, api.ErrShort, nil, p[:len(p)-1])
		add(d, api.ErrShort, nil, p[:len(p)/2])
		add(d, api.ErrEnd, nil, p, []byte("and more"))
		add(d, api.ErrPatch, nil, turned(p, 8*len(p)-1))
		add(device{slices.Concat([]byte{1}, x.old), 64}, api.ErrOld, nil, p)
		small := device{x.old, 0}
		if len(x.next) > small.flash().Pages()*api.PageSize {
			add(small, api.ErrSize, nil, p)
		}
	}
	return l
}

// turn feeds the next few bytes, or finishes. Behind an error it goes on.
func (w *work) turn(n int) {
	n = min(n, len(w.row)-w.fed)
	var err error
	if w.fed == len(w.row) {
		err = w.a.Finish()
		w.done = true
	} else {
		err = w.a.Feed(w.row[w.fed : w.fed+n])
		w.fed += n
	}
	if w.told == api.OK {
		w.told = api.Tell(err)
	}
}

func (w *work) wantRight(t *testing.T) {
	t.Helper()
	if w.told != w.want {
		t.Fatalf("fed in turns: error %d, want %d", w.told, w.want)
	}
	if w.want != api.OK {
		wantNothing(t, w.flash, w.d.old)
		wantPagesBegun(t, w.flash)
		return
	}
	wantImage(t, w.flash, w.image)
	if l := w.flash.Events(); !slices.Equal(l, events(len(w.image))) {
		t.Fatalf("fed in turns: %v", l)
	}
}

// P2, P5, P8: several appliers on several flashes, fed in turns.
func TestTurns(t *testing.T) {
	r := rand.New(rand.NewSource(38))
	for range 4 {
		all := works(t)
		for _, w := range all {
			w.flash = w.d.flash()
			w.a = firmware.New(w.flash)
		}
		for left := slices.Clone(all); len(left) > 0; {
			i := r.Intn(len(left))
			left[i].turn(r.Intn(1 + r.Intn(300)))
			if left[i].done {
				left = slices.Delete(left, i, i+1)
			}
		}
		for _, w := range all {
			w.wantRight(t)
		}
	}
}

// P2: one applier behind the other on one flash: the one that failed leaves nothing to the next.
func TestOneBehindTheOther(t *testing.T) {
	r := rand.New(rand.NewSource(39))
	for _, x := range few() {
		p := generate(t, x.old, x.next)
		f := flash(x)
		for range 50 {
			if q := spoilt(r, p); !slices.Equal(q, p) {
				if _, err := apply(f, q); err == nil {
					t.Fatal("a spoilt patch was applied")
				}
			}
		}
		wantNothing(t, f, x.old)
		_, err := apply(f, p)
		wantTell(t, "the right patch at last", err, api.OK)
		wantImage(t, f, x.next)
	}
}
