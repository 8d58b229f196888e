package layout

import (
	"bytes"
	"testing"
)

func TestSumSeesEachTurnedBit(t *testing.T) {
	row := []byte("some row of bytes, and \x00\xff more of them")
	want := Start.AddAll(row)
	for i := range row {
		for bit := range 8 {
			row[i] ^= 1 << bit
			if Start.AddAll(row) == want {
				t.Errorf("bit %d of byte %d is not seen", bit, i)
			}
			row[i] ^= 1 << bit
		}
	}
}

func TestSumSeesOrderAndLength(t *testing.T) {
	seen := map[Sum]string{}
	for _, s := range []string{"", "\x00", "\x00\x00", "ab", "ba", "a", "b"} {
		sum := Start.AddAll([]byte(s))
		if other, ok := seen[sum]; ok {
			t.Errorf("%q and %q have the same sum", s, other)
		}
		seen[sum] = s
	}
}

func TestPartsComeBack(t *testing.T) {
	row := bytes.Repeat([]byte{7}, 4096)
	for _, kind := range []Kind{Keep, Copy, Fresh} {
		for size := 1; size <= len(row); size++ {
			b := AppendPart(nil, Part{kind, 513, size}, row[:size])
			if len(b) != Cost(kind, size) {
				t.Fatalf("kind %d, size %d: %d bytes, cost %d", kind, size, len(b), Cost(kind, size))
			}
			part, more, ok := ReadFirst(b[0])
			if more {
				part.Size += ReadMore(b[1])
			}
			if !ok || part.Kind != kind || part.Size != size {
				t.Fatalf("kind %d, size %d: %v, %v", kind, size, part, ok)
			}
		}
	}
}

func TestPlaceStandsBehindSize(t *testing.T) {
	if b := AppendPart(nil, Part{Copy, 513, 1}, nil); !bytes.Equal(b, []byte{1 << 6, 2, 1}) {
		t.Errorf("%v", b)
	}
}

func TestNoSuchKind(t *testing.T) {
	for b := 3 << 6; b < 256; b++ {
		if _, _, ok := ReadFirst(byte(b)); ok {
			t.Errorf("byte %d", b)
		}
	}
}

func TestWrapTellsLengths(t *testing.T) {
	p := Wrap([]byte("old"), 258, []byte("parts"))
	if len(p) != headSize+5+SumSize {
		t.Fatalf("%d bytes", len(p))
	}
	if p[0] != Mark || p[1] != 0 || p[2] != 3 {
		t.Errorf("mark and old length: %v", p[:3])
	}
	if tail := p[11:15]; !bytes.Equal(tail, []byte{1, 2, 0, byte(len(p))}) {
		t.Errorf("new length and total: %v", tail)
	}
}
