package layout

// Kind tells where the bytes of a part come from.
type Kind byte

const (
	Keep  Kind = iota // the old image, at the same place
	Copy              // the old image, at a place that is told
	Fresh             // the patch
	kinds
)

// Part is a stretch of the new image. At counts for Copy alone.
type Part struct {
	Kind Kind
	At   int
	Size int
}

// A part begins with a byte of its kind, a flag and the low bits of its size less 1. If the flag is set a byte with the high bits follows.
const (
	lowBits  = 5
	moreFlag = 1 << lowBits
	lowMask  = moreFlag - 1
	kindAt   = lowBits + 1
)

// ShortSize is the greatest size that is told in one byte.
const ShortSize = 1 << lowBits

// Cost tells how many bytes of a patch a part takes.
func Cost(kind Kind, size int) int {
	cost := 1
	if size > ShortSize {
		cost++
	}
	switch kind {
	case Copy:
		cost += LengthSize
	case Fresh:
		cost += size
	}
	return cost
}

// AppendPart writes a part; row has its bytes, which are written if they are fresh.
func AppendPart(patch []byte, part Part, row []byte) []byte {
	n := part.Size - 1
	first := byte(part.Kind)<<kindAt | byte(n&lowMask)
	if part.Size > ShortSize {
		patch = append(patch, first|moreFlag, byte(n>>lowBits))
	} else {
		patch = append(patch, first)
	}
	switch part.Kind {
	case Copy:
		patch = appendNumber(patch, uint64(part.At), LengthSize)
	case Fresh:
		patch = append(patch, row...)
	}
	return patch
}

// ReadFirst takes the first byte of a part: its kind, its size as far as it is told here, whether more of it follows, and whether there is such a kind.
func ReadFirst(b byte) (part Part, more, ok bool) {
	kind := Kind(b >> kindAt)
	if kind >= kinds {
		return Part{}, false, false
	}
	return Part{Kind: kind, Size: int(b&lowMask) + 1}, b&moreFlag != 0, true
}

// ReadMore takes the byte behind the first one: what it adds to the size.
func ReadMore(b byte) int { return int(b) << lowBits }
