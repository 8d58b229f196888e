package firmware_test

import (
	"math/rand"
	"slices"
	"testing"

	"firmware/api"
	"firmware/firmware"
	"firmware/plain"
)

// tears are how far a page is done when the power is cut: not at all, by its first byte, to its middle, but for its last byte; and numbers beyond a page.
func tears() []byte { return []byte{0, 1, 32, 63, 64, 255} }

// cutPairs are images that need no page, just whole pages, a byte less and a byte more, made of all kinds of parts.
func cutPairs() []pair {
	r := rand.New(rand.NewSource(50))
	old := some(r, 200, 256)
	l := few()
	for _, n := range []int{0, 1, 63, 64, 65, 127, 128, 129} {
		half := n / 2
		l = append(l,
			pair{nil, some(r, n, 256)},
			pair{old, old[:n]},
			pair{old[:n], some(r, n, 256)},
			pair{old, slices.Concat(old[200-half:], some(r, n-2*half, 256), old[:half])})
	}
	return l
}

// cutWays cuts bytes into one chunk, single bytes, and chunks of other sizes.
func cutWays(r *rand.Rand, p []byte) [][][]byte {
	return append(fewCuts(r, p), slices.Collect(slices.Chunk(p, 13)), [][]byte{nil, p[:len(p)/2], {}, p[len(p)/2:]})
}

// done tells how many operations a flash has done since it was made or given power again: those to its new slot, and reads beyond so many.
func done(f *api.Flash, readsBefore int) int {
	n, _ := f.Reads()
	return n - readsBefore + len(f.Events())
}

// operations tells how many operations there are while bytes are applied, and the error.
func operations(d device, row []byte) (int, api.Errno) {
	f := d.flash()
	_, err := apply(f, row)
	return done(f, 0), api.Tell(err)
}

// slot tells what the new slot has, be it committed or not. It asks a copy, so that the flash is as it was.
func slot(t *testing.T, f *api.Flash) []byte {
	t.Helper()
	g := *f
	g.Restore()
	wantTell(t, "Commit of a copy", g.Commit(g.Pages()*api.PageSize), api.OK)
	b, _ := g.Image()
	return b
}

// place is the operation that the power was cut at.
type place int

const (
	atRead place = iota
	atErase
	atProgram
	atCommit
	places
)

// cutOff applies chunks while the power is cut behind so many operations, which is too early, and gives power again. It asks for what P9 says, and for P6 and P8 without power and with it.
func cutOff(t *testing.T, f *api.Flash, after int, torn byte, chunks [][]byte) (*firmware.Applier, place) {
	t.Helper()
	old, before := f.Old(), slot(t, f)
	reads, _ := f.Reads()
	f.Cut(after, torn)
	a := firmware.New(f)
	err := feedAll(a, chunks)
	byFeed := err != nil
	if !byFeed {
		err = a.Finish()
	}
	wantTell(t, "the power is cut", err, api.ErrPower)
	wantValue(t, err)
	wantLittle(t, f, a)
	at := wantNoMore(t, f, reads, after, byFeed)
	wantDead(t, f, a, old, chunks)
	if at == atErase || at == atProgram {
		wantTornPage(t, f, before, torn)
	}
	f.Restore()
	wantDead(t, f, a, old, chunks)
	wantEvents(t, "an applier whose power was cut", f, nil)
	return a, at
}

// wantNoMore asks that there was no operation behind the one that the power was cut at, and tells which one that was: the flash counts an Erase and a Program that was cut, and no Read and no Commit.
func wantNoMore(t *testing.T, f *api.Flash, reads, after int, byFeed bool) place {
	t.Helper()
	wantPagesBegun(t, f)
	n := done(f, reads)
	if n < after || n > after+1 {
		t.Fatalf("%d operations, though the power was cut behind %d", n, after)
	}
	if n == after && byFeed {
		return atRead
	}
	if n == after {
		return atCommit
	}
	if !byFeed {
		t.Fatal("Finish did something to a page")
	}
	if l := f.Events(); l[len(l)-1].Kind == api.Erase {
		return atErase
	}
	return atProgram
}

// wantDead asks that nothing is committed and the old image is as it was, and that an applier whose power was cut answers ErrPower for good and does nothing: of any bytes, and of those that were to come.
func wantDead(t *testing.T, f *api.Flash, a *firmware.Applier, old []byte, chunks [][]byte) {
	t.Helper()
	wantNothing(t, f, old)
	was, events := slot(t, f), f.Events()
	still(t, f, a, api.ErrPower)
	for _, c := range chunks {
		wantTell(t, "a later Feed", a.Feed(c), api.ErrPower)
	}
	still(t, f, a, api.ErrPower)
	wantEvents(t, "an applier whose power was cut", f, events)
	wantNothing(t, f, old)
	if !slices.Equal(slot(t, f), was) {
		t.Fatal("an applier whose power was cut wrote into the new slot")
	}
}

// wantTornPage asks that what stands behind the page that was being written is as it was before.
func wantTornPage(t *testing.T, f *api.Flash, before []byte, torn byte) {
	t.Helper()
	l := f.Events()
	last := l[len(l)-1]
	from, to := last.Page*api.PageSize, (last.Page+1)*api.PageSize
	now := slot(t, f)
	if !slices.Equal(now[to:], before[to:]) {
		t.Fatal("a page behind the torn one was written")
	}
	if far := from + int(torn)%api.PageSize; last.Kind == api.Erase && !slices.Equal(now[far:to], before[far:to]) {
		t.Fatal("a page that was being erased was written")
	}
}

// wantBrought asks that a new applier brings the new image over, from the patch's beginning, and does to the new slot what P8 says.
func wantBrought(t *testing.T, f *api.Flash, x pair, chunks [][]byte) {
	t.Helper()
	a, err := apply(f, chunks...)
	wantTell(t, "applied when there is power again", err, api.OK)
	wantImage(t, f, x.next)
	wantEvents(t, "applied when there is power again", f, events(len(x.next)))
	if !slices.Equal(f.Old(), x.old) {
		t.Fatal("the old image is not as it was")
	}
	still(t, f, a, api.ErrDone)
}

// P9: the power is cut at each single operation, with pages torn at all edges, however the patch is cut.
func TestCutAtEachOperation(t *testing.T) {
	r := rand.New(rand.NewSource(51))
	for _, x := range cutPairs() {
		p := generate(t, x.old, x.next)
		all, _ := operations(justFor(x), p)
		for _, chunks := range cutWays(r, p) {
			var met [places]int
			for after := range all {
				for _, torn := range tears() {
					f := flash(x)
					_, at := cutOff(t, f, after, torn, chunks)
					wantBrought(t, f, x, chunks)
					met[at]++
				}
			}
			wantPlaces(t, x, all, met)
		}
	}
}

// wantPlaces asks that the power was cut at each operation: all that there are, by the number of each kind.
func wantPlaces(t *testing.T, x pair, all int, met [places]int) {
	t.Helper()
	for i := range met {
		met[i] /= len(tears())
	}
	pages := (len(x.next) + api.PageSize - 1) / api.PageSize
	if want := [places]int{all - 2*pages - 1, pages, pages, 1}; met != want {
		t.Fatalf("cut at %v operations, want %v", met, want)
	}
	if len(x.old) > 0 && met[atRead] == 0 {
		t.Fatal("the old image was not read")
	}
}

// P9: the power is cut at each single operation of applying patches for long images.
func TestCutOfLongImages(t *testing.T) {
	for _, x := range longPairs() {
		p := generate(t, x.old, x.next)
		chunks := slices.Collect(slices.Chunk(p, 300))
		all, _ := operations(justFor(x), p)
		for after := range all {
			f := flash(x)
			cutOff(t, f, after, byte(after*37), [][]byte{p})
			cutOff(t, f, all-1-after, byte(after*11), chunks)
			wantBrought(t, f, x, chunks)
		}
	}
}

// P9: a cut behind the last operation is none.
func TestCutBehindTheLast(t *testing.T) {
	r := rand.New(rand.NewSource(52))
	for _, x := range append(cutPairs(), longPairs()...) {
		p := generate(t, x.old, x.next)
		all, _ := operations(justFor(x), p)
		for _, more := range []int{0, 1, 1000} {
			for _, chunks := range fewCuts(r, p) {
				f := flash(x)
				f.Cut(all+more, 20)
				wantBrought(t, f, x, chunks)
			}
		}
	}
}

// P9: the power is cut at Commit: Finish answers ErrPower, and commits nothing when it is called again with power.
func TestCutAtCommit(t *testing.T) {
	for _, x := range append(cutPairs(), longPairs()...) {
		p := generate(t, x.old, x.next)
		f := flash(x)
		a := firmware.New(f)
		wantTell(t, "Feed", a.Feed(p), api.OK)
		f.Cut(0, 0)
		wantTell(t, "Finish without power", a.Finish(), api.ErrPower)
		wantEvents(t, "Finish without power", f, pageEvents((len(x.next)+api.PageSize-1)/api.PageSize))
		wantNothing(t, f, x.old)
		f.Restore()
		wantTell(t, "Finish again", a.Finish(), api.ErrPower)
		wantDead(t, f, a, x.old, [][]byte{p})
		wantBrought(t, f, x, [][]byte{p})
	}
}

// P9: the power is cut between two calls, ahead of each byte and of Finish.
func TestCutBetweenCalls(t *testing.T) {
	for _, x := range few() {
		p := generate(t, x.old, x.next)
		for i := range len(p) + 1 {
			for after := range 3 {
				f := flash(x)
				a := firmware.New(f)
				wantTell(t, "Feed with power", a.Feed(p[:i]), api.OK)
				before := done(f, 0)
				f.Cut(after, 9)
				err := a.Feed(p[i:])
				if err == nil {
					err = a.Finish()
				}
				if err == nil && done(f, 0)-before <= after {
					wantImage(t, f, x.next)
					continue
				}
				wantTell(t, "the power is cut between calls", err, api.ErrPower)
				wantDead(t, f, a, x.old, [][]byte{p[i:]})
				f.Restore()
				wantDead(t, f, a, x.old, [][]byte{p[i:]})
				wantBrought(t, f, x, [][]byte{p})
			}
		}
	}
}

// P9: while there is no power, each new applier is told so.
func TestNoPowerYet(t *testing.T) {
	r := rand.New(rand.NewSource(53))
	for _, x := range cutPairs() {
		p := generate(t, x.old, x.next)
		f := flash(x)
		f.Cut(0, 40)
		for _, chunks := range cutWays(r, p) {
			a, err := apply(f, chunks...)
			wantTell(t, "no power yet", err, api.ErrPower)
			wantDead(t, f, a, x.old, chunks)
		}
		f.Restore()
		wantBrought(t, f, x, [][]byte{p})
	}
}

// P2, P9: a chunk is neither written into nor kept when the power is cut, and what was told can be written into.
func TestCutKeepsNothing(t *testing.T) {
	for _, x := range few() {
		p := generate(t, x.old, x.next)
		all, _ := operations(justFor(x), p)
		for after := range all {
			f := flash(x)
			f.Cut(after, 5)
			chunk := roomy(p)
			a, err := apply(f, chunk)
			wantRoomy(t, "a chunk", chunk, p)
			if fault, ok := err.(*api.Fault); ok {
				fault.Err, fault.At = api.OK, -1
			}
			clear(chunk)
			f.Restore()
			wantDead(t, f, a, x.old, [][]byte{p})
		}
	}
}

// P9: asked from outside, by package plain.
func TestPipeOfACut(t *testing.T) {
	for _, x := range few() {
		all, _ := operations(justFor(x), generate(t, x.old, x.next))
		f := flash(x)
		for after := range all {
			f.Cut(after, byte(after))
			if n := plain.Pipe(f, x.old, x.next, 1+after); n != api.ErrPower {
				t.Fatalf("the power is cut behind %d operations: error %d", after, n)
			}
			wantNothing(t, f, x.old)
			f.Restore()
		}
		if n := plain.Pipe(f, x.old, x.next, 8); n != api.OK {
			t.Fatalf("with power again: error %d", n)
		}
		wantImage(t, f, x.next)
	}
}
