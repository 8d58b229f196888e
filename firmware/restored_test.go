package firmware_test

import (
	"bytes"
	"math/rand"
	"slices"
	"testing"

	"firmware/api"
	"firmware/firmware"
)

// P9: a page that is torn at each of its bytes, within its erasing and within its programming, can be written with any bits behind it.
func TestTornPages(t *testing.T) {
	old := count()[:100]
	images := [][]byte{make([]byte, 129), bytes.Repeat([]byte{255}, 129), bytes.Repeat([]byte{0x55}, 192), bytes.Repeat([]byte{0xAA}, 65), nil}
	var patches [][]byte
	for _, next := range images {
		patches = append(patches, generate(t, old, next))
	}
	d := device{old, 3}
	for _, p := range patches {
		all, _ := operations(d, p)
		for after := range all {
			for torn := range 2 * api.PageSize {
				for i, next := range images {
					f := d.flash()
					_, at := cutOff(t, f, after, byte(torn), [][]byte{p})
					wantBrought(t, f, pair{old, next}, [][]byte{patches[i]})
					if at != atErase && at != atProgram {
						break
					}
				}
			}
		}
	}
}

// P9: a cut within programming leaves a page of which just the first bytes are there, and the pages ahead of it are whole.
func TestWhatACutLeaves(t *testing.T) {
	r := rand.New(rand.NewSource(54))
	x := pair{some(r, 150, 256), some(r, 150, 256)}
	p := generate(t, x.old, x.next)
	all, _ := operations(justFor(x), p)
	for after := range all {
		for torn := range api.PageSize {
			f := flash(x)
			f.Cut(after, byte(torn))
			apply(f, p)
			wantPagesBegun(t, f)
			l := f.Events()
			if len(l) == 0 {
				continue
			}
			last := l[len(l)-1]
			now, far := slot(t, f), last.Page*api.PageSize
			if last.Kind == api.Program && done(f, 0) > after {
				far = min(far+torn, len(x.next))
			}
			if !slices.Equal(now[:far], x.next[:far]) {
				t.Fatalf("behind a cut at %v: other bytes", last)
			}
		}
	}
}

// P6, P9: an applier whose power was cut does nothing to the flash either while a new one works on it.
func TestDeadBesideNew(t *testing.T) {
	for _, x := range few() {
		p := generate(t, x.old, x.next)
		all, _ := operations(justFor(x), p)
		for after := range all {
			f := flash(x)
			dead, _ := cutOff(t, f, after, byte(after*50), [][]byte{p})
			a := firmware.New(f)
			for piece := range firmware.Pieces(p, 3) {
				still(t, f, dead, api.ErrPower)
				wantTell(t, "Feed", a.Feed(piece), api.OK)
			}
			still(t, f, dead, api.ErrPower)
			wantTell(t, "Finish", a.Finish(), api.OK)
			still(t, f, dead, api.ErrPower)
			wantImage(t, f, x.next)
			wantEvents(t, "applied beside a dead one", f, events(len(x.next)))
		}
	}
}

// P9: the power is cut at one operation and then, restored, at any other one.
func TestCutTwice(t *testing.T) {
	for _, x := range few() {
		p := generate(t, x.old, x.next)
		all, _ := operations(justFor(x), p)
		for first := range all {
			for second := range all {
				f := flash(x)
				cutOff(t, f, first, byte(first*90+second), [][]byte{p})
				cutOff(t, f, second, byte(second*70+first), slices.Collect(slices.Chunk(p, 9)))
				wantBrought(t, f, x, [][]byte{p})
			}
		}
	}
}

// P9: on one flash the power is cut at each operation, forth and back.
func TestCutForthAndBack(t *testing.T) {
	r := rand.New(rand.NewSource(55))
	for _, x := range append(cutPairs(), longPairs()[3]) {
		p := generate(t, x.old, x.next)
		all, _ := operations(justFor(x), p)
		f := flash(x)
		for after := range all {
			cutOff(t, f, after, byte(r.Intn(256)), cuts(r, p))
		}
		for after := all - 1; after >= 0; after-- {
			cutOff(t, f, after, byte(r.Intn(256)), cuts(r, p))
		}
		wantBrought(t, f, x, cuts(r, p))
	}
}

// P9: on one flash the power is cut many times, at any operation of any patch for its image.
func TestCutManyTimes(t *testing.T) {
	r := rand.New(rand.NewSource(56))
	old := some(r, 300, 256)
	d := device{old, 8}
	var images, patches [][]byte
	for _, size := range []int{0, 1, 64, 128, 129, 500, 512} {
		images = append(images, some(r, size, 256), slices.Repeat(old, 2)[77:][:size], make([]byte, size))
	}
	for _, next := range images {
		patches = append(patches, generate(t, old, next))
	}
	for i, next := range images {
		f := d.flash()
		for range 150 {
			p := patches[r.Intn(len(patches))]
			all, _ := operations(d, p)
			cutOff(t, f, r.Intn(all), byte(r.Intn(256)), cuts(r, p))
		}
		wantBrought(t, f, pair{old, next}, cuts(r, patches[i]))
	}
}

// wrong is bytes that are no right patch, and their error.
type wrong struct {
	what string
	row  []byte
	want api.Errno // OK: any one of P5
}

// wrongs makes wrong bytes of all kinds for a device.
func wrongs(t *testing.T, r *rand.Rand, d device, next []byte) []wrong {
	p := generate(t, d.old, next)
	l := []wrong{
		{"nothing", nil, api.ErrShort},
		{"half of a patch", p[:len(p)/2], api.ErrShort},
		{"without its last byte", p[:len(p)-1], api.ErrShort},
		{"a byte more", slices.Concat(p, []byte{0}), api.ErrEnd},
		{"twice", slices.Concat(p, p), api.ErrEnd},
		{"its last bit turned", turned(p, 8*len(p)-1), api.ErrPatch},
		{"a longer old image", generate(t, slices.Concat(d.old, []byte{0}), next), api.ErrOld},
		{"any bytes", some(r, 50, 256), api.OK},
	}
	for range 6 {
		l = append(l, wrong{"a bit turned", turned(p, r.Intn(8*len(p))), api.OK})
	}
	if n := len(d.old); n > 0 {
		l = append(l, wrong{"a shorter old image", generate(t, d.old[:n-1], next), api.ErrOld})
		l = append(l, wrong{"a bit of the old image turned", generate(t, turned(d.old, r.Intn(8*n)), next), api.ErrOld})
	}
	size := d.flash().Pages() * api.PageSize
	return append(l,
		wrong{"too long an image", generate(t, d.old, make([]byte, size+1)), api.ErrSize},
		wrong{"too long an image of other bytes, and bytes more", append(generate(t, d.old, some(r, size+64, 256)), 1), api.ErrSize})
}

// wantWrong asks that wrong bytes are told as P5 says, and that nothing is committed.
func wantWrong(t *testing.T, f *api.Flash, w wrong, chunks [][]byte) {
	t.Helper()
	old := f.Old()
	a, err := apply(f, chunks...)
	told := api.Tell(err)
	if told < api.ErrPatch || told > api.ErrEnd || w.want != api.OK && told != w.want {
		t.Fatalf("%s: error %d, want %d", w.what, told, w.want)
	}
	wantValue(t, err)
	wantNothing(t, f, old)
	wantPagesBegun(t, f)
	still(t, f, a, told)
	wantNothing(t, f, old)
}

// P5, P9: behind a cut at each operation and Restore, wrong bytes of each kind are told as ever, and behind them the right patch is applied.
func TestWrongBehindACut(t *testing.T) {
	r := rand.New(rand.NewSource(57))
	for _, x := range few() {
		p := generate(t, x.old, x.next)
		d := justFor(x)
		all, _ := operations(d, p)
		for _, w := range wrongs(t, r, d, x.next) {
			for after := range all {
				for _, chunks := range fewCuts(r, w.row) {
					f := d.flash()
					cutOff(t, f, after, byte(r.Intn(256)), [][]byte{p})
					wantWrong(t, f, w, chunks)
					// A Restore without a cut, so that what is done next is told alone.
					f.Restore()
					wantBrought(t, f, x, [][]byte{p})
				}
			}
		}
	}
}

// P5, P9: while wrong bytes are applied, the power is cut at each operation: ErrPower is told ahead of what was not yet seen, and behind Restore they are told as ever.
func TestCutOfWrong(t *testing.T) {
	r := rand.New(rand.NewSource(58))
	for _, x := range few() {
		p := generate(t, x.old, x.next)
		d := justFor(x)
		for _, w := range wrongs(t, r, d, x.next) {
			all, told := operations(d, w.row)
			w.want = told
			for _, chunks := range fewCuts(r, w.row) {
				for after := range all {
					f := d.flash()
					cutOff(t, f, after, byte(r.Intn(256)), chunks)
					wantWrong(t, f, w, chunks)
					f.Restore()
					wantBrought(t, f, x, [][]byte{p})
				}
				f := d.flash()
				f.Cut(all, 30)
				wantWrong(t, f, w, chunks)
			}
		}
	}
}

// P5, P9: on one flash wrong bytes and cuts of all kinds, one behind the other, and the right patch at last.
func TestWrongAndCutInTurns(t *testing.T) {
	r := rand.New(rand.NewSource(59))
	for _, x := range cutPairs() {
		p := generate(t, x.old, x.next)
		d := justFor(x)
		all, _ := operations(d, p)
		f := d.flash()
		l := wrongs(t, r, d, x.next)
		for range 40 {
			cutOff(t, f, r.Intn(all), byte(r.Intn(256)), cuts(r, p))
			w := l[r.Intn(len(l))]
			wantWrong(t, f, w, cuts(r, w.row))
			f.Restore()
		}
		wantBrought(t, f, x, cuts(r, p))
	}
}
