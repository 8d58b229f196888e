package layout

// Sum checks a row of bytes. Each step is one-to-one in the sum so far and in the byte, so two rows of one length that differ in one byte never have the same sum.
type Sum uint64

// Start is the sum of no bytes.
const Start Sum = 14695981039346656037

const factor Sum = 1099511628211

// Add is the sum with one byte more.
func (s Sum) Add(b byte) Sum {
	s = (s ^ Sum(b)) * factor
	// A product moves bits upward alone: without this the high bits of the sum would never tell in the low ones.
	return s ^ s>>32
}

// AddAll is the sum with all the bytes of a row more.
func (s Sum) AddAll(row []byte) Sum {
	for _, b := range row {
		s = s.Add(b)
	}
	return s
}
