// Package layout says how the bytes of a patch stand:
//
//	the mark, the old image's length and sum, the new image's length, the patch's length (the head),
//	the parts of the new image, one behind the other,
//	the sum of all that stands ahead of it (the seal).
//
// The old image stands foremost, so that a patch for another image is known before anything else of it counts.
// The patch's length is there so that a turned bit is always seen: turned in the length, the bytes are too few or too many; turned elsewhere, the seal stands where it stood and is wrong.
package layout

// Mark is the first byte of a patch.
const Mark = 0xF1

// How many bytes a number takes. The high byte is foremost.
const (
	LengthSize = 2
	SumSize    = 8
)

const headSize = 1 + LengthSize + SumSize + LengthSize + LengthSize

// Wrap makes a patch of its parts.
func Wrap(old []byte, newSize int, parts []byte) []byte {
	total := headSize + len(parts) + SumSize
	patch := make([]byte, 0, total)
	patch = append(patch, Mark)
	patch = appendNumber(patch, uint64(len(old)), LengthSize)
	patch = appendNumber(patch, uint64(Start.AddAll(old)), SumSize)
	patch = appendNumber(patch, uint64(newSize), LengthSize)
	patch = appendNumber(patch, uint64(total), LengthSize)
	patch = append(patch, parts...)
	return appendNumber(patch, uint64(Start.AddAll(patch)), SumSize)
}

// appendNumber writes the low bytes of a number.
func appendNumber(patch []byte, n uint64, size int) []byte {
	for k := size - 1; k >= 0; k-- {
		patch = append(patch, byte(n>>(8*k)))
	}
	return patch
}
