// Package firmware: patches from an old image to a new one, and what applies them on a device: see DOC.md.
package firmware

import (
	"slices"

	"firmware/alike"
	"firmware/api"
	"firmware/layout"
)

// Generate makes a patch (P3).
func Generate(old, next []byte) ([]byte, error) {
	if len(old) > api.MaxImage || len(next) > api.MaxImage {
		return nil, api.ErrImage
	}
	found := make(chan layout.Part)
	go alike.Find(old, next, found)
	return layout.Wrap(old, len(next), writeParts(next, found)), nil
}

// writeParts writes the parts of next as they come.
func writeParts(next []byte, found <-chan layout.Part) []byte {
	var parts []byte
	at := 0
	for part := range found {
		parts = layout.AppendPart(parts, part, next[at:at+part.Size])
		at += part.Size
	}
	return parts
}

// Pieces cuts a patch into pieces of n bytes (P4).
func Pieces(patch []byte, n int) func(yield func(piece []byte) bool) {
	if n < 1 {
		return func(yield func(piece []byte) bool) {}
	}
	// The function is called later, and what was handed in may be another by then.
	own := slices.Clone(patch)
	return func(yield func(piece []byte) bool) {
		for piece := range slices.Chunk(own, n) {
			if !yield(slices.Clone(piece)) {
				return
			}
		}
	}
}

// Applier applies a patch.
type Applier struct {
	flash *api.Flash
	step  step
	fault api.Fault // what each later call answers, if it has an error
	taken int       // bytes of the patch
	sum   layout.Sum
	whole bool // all of the patch was there, and was right

	number uint64 // the number that is being taken
	got    int    // bytes of it

	newSize int
	total   int // length of the patch, by its head
	part    layout.Part
	seal    layout.Sum // what the patch's seal must be

	page    [api.PageSize]byte
	filled  int // bytes of the page
	written int // bytes of the new image, the page's too
}

// New begins to apply a patch to a flash (P5).
func New(f *api.Flash) *Applier {
	return &Applier{flash: f, step: (*Applier).takeMark, sum: layout.Start}
}

// Feed takes the next bytes of the patch (P5).
func (a *Applier) Feed(chunk []byte) error {
	if a.ended() {
		return a.told()
	}
	for _, b := range chunk {
		if err := a.take(b); err != nil {
			a.end(err)
			return a.told()
		}
	}
	return nil
}

// Finish tells that the patch is at its end (P5).
func (a *Applier) Finish() error {
	if a.ended() {
		return a.told()
	}
	if err := a.commit(); err != nil {
		a.end(err)
		return a.told()
	}
	a.end(api.ErrDone)
	return nil
}

// Held tells how many bytes the applier holds (P7).
func (a *Applier) Held() int { return a.filled + a.got }

func (a *Applier) ended() bool { return a.fault.Err != api.OK }

// end sets what each later call answers.
func (a *Applier) end(err error) {
	a.fault = api.Fault{At: a.taken, Err: api.Tell(err)}
}

// told is made anew each time: whoever gets it may write into it.
func (a *Applier) told() error {
	f := a.fault
	return &f
}
