package alike

import (
	"bytes"
	"slices"
)

// index finds rows of bytes in an image. The places are sorted by what stands from them on, so what is most alike to a row stands beside where the row would stand.
type index struct {
	image  []byte
	places []int
}

func newIndex(image []byte) index {
	places := make([]int, len(image))
	for i := range places {
		places[i] = i
	}
	slices.SortFunc(places, func(a, b int) int { return bytes.Compare(image[a:], image[b:]) })
	return index{image, places}
}

// longest finds the longest beginning of a row that stands in the image: where, and how long it is.
func (x index) longest(row []byte) (at, size int) {
	k, _ := slices.BinarySearchFunc(x.places, row, func(place int, row []byte) int {
		return bytes.Compare(x.image[place:], row)
	})
	for _, place := range x.places[max(k-1, 0):min(k+1, len(x.places))] {
		if n := common(x.image[place:], row); n > size {
			at, size = place, n
		}
	}
	return at, size
}

// common tells how many bytes two rows have in common from their beginning on.
func common(a, b []byte) int {
	n := min(len(a), len(b))
	for i := range n {
		if a[i] != b[i] {
			return i
		}
	}
	return n
}
