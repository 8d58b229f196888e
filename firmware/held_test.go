package firmware_test

import (
	"encoding/binary"
	"math/rand"
	"runtime"
	"slices"
	"testing"

	"firmware/api"
	"firmware/firmware"
	"firmware/layout"
)

// wantLittle asks that little is held and was read.
func wantLittle(t *testing.T, f *api.Flash, a *firmware.Applier) {
	t.Helper()
	if n := a.Held(); n < 0 || n > api.MaxHeld {
		t.Fatalf("%d bytes are held", n)
	}
	if _, longest := f.Reads(); longest > api.MaxRead {
		t.Fatalf("a read of %d bytes", longest)
	}
}

// watch feeds chunks, behind an error too, and asks at each call for what P7 says. It tells what Finish answered.
func watch(t *testing.T, f *api.Flash, chunks ...[]byte) error {
	t.Helper()
	a := firmware.New(f)
	wantLittle(t, f, a)
	for _, c := range chunks {
		a.Feed(c)
		wantLittle(t, f, a)
	}
	err := a.Finish()
	wantLittle(t, f, a)
	a.Feed(count())
	a.Finish()
	wantLittle(t, f, a)
	return err
}

// waysToCut cuts bytes into chunks of many sizes, none too.
func waysToCut(r *rand.Rand, p []byte) [][][]byte {
	l := [][][]byte{{p}, {nil, p, {}}, cuts(r, p), cuts(r, p)}
	for _, n := range []int{1, 2, 7, 63, 64, 65, 1000, 1024, 1025} {
		l = append(l, slices.Collect(slices.Chunk(p, n)))
	}
	return l
}

// P7: little is held and read while right patches are applied, however they are cut.
func TestHeldOfRightPatches(t *testing.T) {
	r := rand.New(rand.NewSource(15))
	for _, x := range pairs() {
		for _, chunks := range waysToCut(r, generate(t, x.old, x.next)) {
			f := flash(x)
			wantTell(t, "applied", watch(t, f, chunks...), api.OK)
			wantImage(t, f, x.next)
		}
	}
}

// P7: without chunks there is nothing to hold.
func TestHeldOfNothing(t *testing.T) {
	for _, chunks := range [][][]byte{nil, {nil}, {{}, nil, {}}} {
		f := api.NewFlash(count(), 4)
		a := firmware.New(f)
		for _, c := range chunks {
			wantTell(t, "Feed", a.Feed(c), api.OK)
		}
		if a.Held() != 0 {
			t.Errorf("%d bytes are held of nothing", a.Held())
		}
		wantTell(t, "no patch", watch(t, f, chunks...), api.ErrShort)
	}
}

// P7: Held tells of all bytes that were fed and are in no page yet. They are such as can be told no shorter.
func TestHeldTells(t *testing.T) {
	r := rand.New(rand.NewSource(16))
	for _, size := range []int{1, 63, 64, 65, 200, 4096} {
		next := some(r, size, 256)
		p := generate(t, nil, next)
		beside := len(p) - size
		f := api.NewFlash(nil, 64)
		a := firmware.New(f)
		for i, b := range p {
			wantTell(t, "Feed", a.Feed([]byte{b}), api.OK)
			fed := i + 1
			inPages := len(f.Events()) / 2 * api.PageSize
			if least := fed - beside - inPages; a.Held() < least || a.Held() > fed {
				t.Fatalf("%d bytes were fed, %d are in pages: %d are held", fed, inPages, a.Held())
			}
		}
		wantTell(t, "Finish", a.Finish(), api.OK)
		if a.Held() != 0 {
			t.Errorf("%d bytes are held behind Finish", a.Held())
		}
	}
}

// longPairs are images of MaxImage bytes: nothing alike, all alike, alike at other places.
func longPairs() []pair {
	r := rand.New(rand.NewSource(17))
	old := some(r, api.MaxImage, 256)
	return []pair{{old, some(r, api.MaxImage, 256)}, {nil, old}, {old, old}, {old, slices.Concat(old[1000:], old[:1000])}, {make([]byte, api.MaxImage), old}}
}

// P7: what an applier keeps from call to call, as the memory tells it.
func TestMemoryBetweenCalls(t *testing.T) {
	const many = 300
	for _, x := range longPairs() {
		p := generate(t, x.old, x.next)
		flashes := make([]*api.Flash, many)
		appliers := make([]*firmware.Applier, many)
		for i := range many {
			flashes[i] = flash(x)
			appliers[i] = firmware.New(flashes[i])
			for c := range slices.Chunk(p[:len(p)-1], 100) {
				wantTell(t, "Feed", appliers[i].Feed(slices.Clone(c)), api.OK)
			}
		}
		with := inUse()
		runtime.KeepAlive(appliers)
		clear(appliers)
		without := inUse()
		runtime.KeepAlive(flashes)
		if each := (with - without) / many; each > api.MaxHeld {
			t.Errorf("an applier keeps %d bytes", each)
		}
	}
}

// inUse tells how many bytes of memory are in use.
func inUse() int {
	var m runtime.MemStats
	runtime.GC()
	runtime.ReadMemStats(&m)
	return int(m.HeapAlloc)
}

// allocated tells how many bytes of memory a function took in all.
func allocated(do func()) int {
	var before, after runtime.MemStats
	runtime.ReadMemStats(&before)
	do()
	runtime.ReadMemStats(&after)
	return int(after.TotalAlloc - before.TotalAlloc)
}

// P7: what an applier takes within a call, as the memory tells it: no more than MaxHeld beside what the flash itself takes.
func TestMemoryWithinCalls(t *testing.T) {
	for _, x := range longPairs() {
		p := generate(t, x.old, x.next)
		f := flash(x)
		a := firmware.New(f)
		var err error
		took := allocated(func() { err = a.Feed(p) })
		wantTell(t, "Feed", err, api.OK)
		reads, _ := f.Reads()
		page := make([]byte, api.PageSize)
		g := flash(x)
		byFlash := allocated(func() {
			for i := range reads {
				g.Read(i%60*api.MaxRead, api.MaxRead)
			}
			for i := range g.Pages() {
				g.Erase(i)
				g.Program(i, page)
			}
		})
		if took > byFlash+api.MaxHeld {
			t.Errorf("a Feed of %d bytes took %d bytes beside the flash's", len(p), took-byFlash)
		}
	}
}

// wantLittleOf asks for what P7 says of bytes that may be no patch, however they are cut.
func wantLittleOf(t *testing.T, r *rand.Rand, x pair, fed []byte) {
	t.Helper()
	for _, chunks := range [][][]byte{{fed}, slices.Collect(slices.Chunk(fed, 1)), cuts(r, fed)} {
		watch(t, flash(x), chunks...)
	}
}

// P7: little is held and read whatever is fed.
func TestHeldOfAnyBytes(t *testing.T) {
	r := rand.New(rand.NewSource(18))
	for _, x := range few() {
		p := generate(t, x.old, x.next)
		for range 300 {
			wantLittleOf(t, r, x, some(r, r.Intn(3000), 256))
			wantLittleOf(t, r, x, slices.Concat(p[:r.Intn(len(p)+1)], some(r, r.Intn(2000), 256)))
			wantLittleOf(t, r, x, layout.Wrap(x.old, r.Intn(len(x.next)+1), some(r, r.Intn(300), 256)))
		}
		wantLittleOf(t, r, x, make([]byte, 100000))
		wantLittleOf(t, r, x, slices.Repeat(p, 50))
	}
}

// P7: little is held and read of patches of which one bit was turned, and of patches for other images and slots.
func TestHeldOfSpoiltPatches(t *testing.T) {
	r := rand.New(rand.NewSource(19))
	for _, x := range append(few(), longPairs()...) {
		p := generate(t, x.old, x.next)
		for range 200 {
			q := slices.Clone(p)
			q[r.Intn(len(q))] ^= 1 << r.Intn(8)
			watch(t, flash(x), q)
		}
		for n := 0; n < len(p); n += 1 + len(p)/50 {
			wantLittleOf(t, r, x, p[:n])
		}
		wantLittleOf(t, r, x, slices.Concat(p, p))
		wantLittleOf(t, r, pair{x.next, x.next}, p)
		wantLittleOf(t, r, pair{x.old, nil}, p)
	}
}

// P7: parts of the greatest sizes that can be told, under a right head and a right seal.
func TestHeldOfGreatParts(t *testing.T) {
	r := rand.New(rand.NewSource(20))
	old := some(r, api.MaxImage, 256)
	for _, kind := range []layout.Kind{layout.Keep, layout.Copy, layout.Fresh} {
		for _, at := range []int{0, 1, 64, 4095, 4096, 65535} {
			for _, size := range []int{1, 32, 33, 64, 65, 4031, 4032, 4095, 4096, 4097, 8192} {
				part := layout.AppendPart(nil, layout.Part{Kind: kind, At: at, Size: size}, make([]byte, size))
				for _, newSize := range []int{size, 4096, 65535} {
					wantLittleOf(t, r, pair{old, old}, layout.Wrap(old, newSize, part))
				}
			}
		}
	}
}

// P7: heads that tell of any lengths.
func TestHeldOfAnyHeads(t *testing.T) {
	r := rand.New(rand.NewSource(21))
	x := pair{count(), count()}
	p := generate(t, x.old, x.next)
	for _, at := range []int{1, 11, 13} {
		for _, n := range []uint16{0, 1, 64, 255, 256, 257, 4096, 4097, 32768, 65535} {
			q := slices.Clone(p[:len(p)-layout.SumSize])
			binary.BigEndian.PutUint16(q[at:], n)
			q = append(q, some(r, 5000, 256)...)
			wantLittleOf(t, r, x, q)
		}
	}
}
