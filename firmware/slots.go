package firmware

import (
	"firmware/api"
	"firmware/layout"
)

// sumOld reads all of the old image, in little reads.
func (a *Applier) sumOld() (layout.Sum, error) {
	sum := layout.Start
	for at := 0; at < a.flash.Size(); at += api.MaxRead {
		row, err := a.flash.Read(at, api.MaxRead)
		if err != nil {
			return 0, err
		}
		sum = sum.AddAll(row)
	}
	return sum, nil
}

// copyOld puts bytes of the old image, which has them, into the new one.
func (a *Applier) copyOld(at, size int) error {
	for end := at + size; at < end; at += api.MaxRead {
		row, err := a.flash.Read(at, min(api.MaxRead, end-at))
		if err != nil {
			return err
		}
		if err := a.put(row...); err != nil {
			return err
		}
	}
	return nil
}

// put takes the next bytes of the new image. A page is written as soon as it has all its bytes, for there is room for one alone.
func (a *Applier) put(row ...byte) error {
	for _, b := range row {
		a.page[a.filled] = b
		a.filled++
		a.written++
		if a.filled < api.PageSize && a.written < a.newSize {
			continue
		}
		if err := a.writePage(); err != nil {
			return err
		}
	}
	return nil
}

// writePage writes the page that the last byte of the new image so far is on.
func (a *Applier) writePage() error {
	p := (a.written - 1) / api.PageSize
	if err := a.flash.Erase(p); err != nil {
		return err
	}
	if err := a.flash.Program(p, a.page[:a.filled]); err != nil {
		return err
	}
	clear(a.page[:])
	a.filled = 0
	return nil
}

// commit makes the new slot count, if all of the patch was there.
func (a *Applier) commit() error {
	if !a.whole {
		return api.ErrShort
	}
	return a.flash.Commit(a.newSize)
}
