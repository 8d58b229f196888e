package firmware

import (
	"firmware/api"
	"firmware/layout"
)

// step takes the next byte of a patch, and tells which one takes the byte behind it.
type step func(a *Applier, b byte) (step, error)

// take takes the next byte. It is in the sum before its step looks at the sum.
func (a *Applier) take(b byte) error {
	a.sum = a.sum.Add(b)
	next, err := a.step(a, b)
	if err != nil {
		return err
	}
	a.step = next
	a.taken++
	return nil
}

// gather takes a byte of a number of so many bytes; whole tells whether it was the last one.
func (a *Applier) gather(b byte, size int) (n uint64, whole bool) {
	a.number = a.number<<8 | uint64(b)
	a.got++
	if a.got < size {
		return 0, false
	}
	n = a.number
	a.number, a.got = 0, 0
	return n, true
}

func (a *Applier) takeMark(b byte) (step, error) {
	if b != layout.Mark {
		return nil, api.ErrPatch
	}
	return (*Applier).takeOldSize, nil
}

func (a *Applier) takeOldSize(b byte) (step, error) {
	n, whole := a.gather(b, layout.LengthSize)
	if !whole {
		return (*Applier).takeOldSize, nil
	}
	if n != uint64(a.flash.Size()) {
		return nil, api.ErrOld
	}
	return (*Applier).takeOldSum, nil
}

func (a *Applier) takeOldSum(b byte) (step, error) {
	n, whole := a.gather(b, layout.SumSize)
	if !whole {
		return (*Applier).takeOldSum, nil
	}
	sum, err := a.sumOld()
	if err != nil {
		return nil, err
	}
	if layout.Sum(n) != sum {
		return nil, api.ErrOld
	}
	return (*Applier).takeNewSize, nil
}

func (a *Applier) takeNewSize(b byte) (step, error) {
	n, whole := a.gather(b, layout.LengthSize)
	if !whole {
		return (*Applier).takeNewSize, nil
	}
	a.newSize = int(n)
	if a.newSize > a.flash.Pages()*api.PageSize {
		return nil, api.ErrSize
	}
	return (*Applier).takeTotal, nil
}

func (a *Applier) takeTotal(b byte) (step, error) {
	n, whole := a.gather(b, layout.LengthSize)
	if !whole {
		return (*Applier).takeTotal, nil
	}
	a.total = int(n)
	return a.behindPart(), nil
}

// behindPart tells what comes behind the head or a part. The new image's length alone says where the parts are at their end.
func (a *Applier) behindPart() step {
	if a.written < a.newSize {
		return (*Applier).takePart
	}
	a.seal = a.sum
	return (*Applier).takeSeal
}

func (a *Applier) takePart(b byte) (step, error) {
	part, more, ok := layout.ReadFirst(b)
	if !ok {
		return nil, api.ErrPatch
	}
	a.part = part
	if more {
		return (*Applier).takePartSize, nil
	}
	return a.beginPart()
}

func (a *Applier) takePartSize(b byte) (step, error) {
	a.part.Size += layout.ReadMore(b)
	return a.beginPart()
}

// beginPart tells what comes behind a part's size.
func (a *Applier) beginPart() (step, error) {
	if a.part.Size > a.newSize-a.written {
		return nil, api.ErrPatch
	}
	switch a.part.Kind {
	case layout.Keep:
		a.part.At = a.written
		return a.copyPart()
	case layout.Copy:
		return (*Applier).takePlace, nil
	}
	return (*Applier).takeFresh, nil
}

func (a *Applier) takePlace(b byte) (step, error) {
	n, whole := a.gather(b, layout.LengthSize)
	if !whole {
		return (*Applier).takePlace, nil
	}
	a.part.At = int(n)
	return a.copyPart()
}

// copyPart takes a part from the old image.
func (a *Applier) copyPart() (step, error) {
	if a.part.At+a.part.Size > a.flash.Size() {
		return nil, api.ErrPatch
	}
	if err := a.copyOld(a.part.At, a.part.Size); err != nil {
		return nil, err
	}
	return a.behindPart(), nil
}

func (a *Applier) takeFresh(b byte) (step, error) {
	if err := a.put(b); err != nil {
		return nil, err
	}
	a.part.Size--
	if a.part.Size > 0 {
		return (*Applier).takeFresh, nil
	}
	return a.behindPart(), nil
}

func (a *Applier) takeSeal(b byte) (step, error) {
	n, whole := a.gather(b, layout.SumSize)
	if !whole {
		return (*Applier).takeSeal, nil
	}
	if layout.Sum(n) != a.seal || a.total != a.taken+1 {
		return nil, api.ErrPatch
	}
	a.whole = true
	return (*Applier).takeMore, nil
}

func (a *Applier) takeMore(b byte) (step, error) { return nil, api.ErrEnd }
