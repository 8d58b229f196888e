package firmware_test

import (
	"bytes"
	"math"
	"slices"
	"testing"

	"firmware/firmware"
)

// P4: how a patch is cut.
func TestPiecesAreCut(t *testing.T) {
	p := []byte("0123456789")
	for _, x := range []struct {
		n    int
		want []string
	}{
		{1, []string{"0", "1", "2", "3", "4", "5", "6", "7", "8", "9"}},
		{4, []string{"0123", "4567", "89"}},
		{5, []string{"01234", "56789"}},
		{9, []string{"012345678", "9"}},
		{10, []string{"0123456789"}},
		{11, []string{"0123456789"}},
		{math.MaxInt, []string{"0123456789"}},
		{0, nil},
		{-1, nil},
		{math.MinInt, nil},
	} {
		var got []string
		for piece := range firmware.Pieces(p, x.n) {
			got = append(got, string(piece))
		}
		if !slices.Equal(got, x.want) {
			t.Errorf("pieces of %d: %q, want %q", x.n, got, x.want)
		}
	}
}

// P4: nothing has no pieces.
func TestPiecesOfNothing(t *testing.T) {
	for _, p := range [][]byte{nil, {}} {
		for _, n := range []int{math.MinInt, -1, 0, 1, math.MaxInt} {
			for piece := range firmware.Pieces(p, n) {
				t.Errorf("pieces of %d: %q", n, piece)
			}
		}
	}
}

// P4: a false is the end.
func TestPiecesStop(t *testing.T) {
	for most := 1; most <= 4; most++ {
		calls := 0
		firmware.Pieces([]byte("0123456789"), 3)(func([]byte) bool {
			calls++
			return calls < most
		})
		if calls != most {
			t.Errorf("%d pieces, want %d", calls, most)
		}
	}
}

// P4: pieces share nothing with each other, nor with what a second walk gives.
func TestPiecesAreFresh(t *testing.T) {
	pieces := firmware.Pieces([]byte("0123456789"), 3)
	for range 2 {
		var all [][]byte
		for piece := range pieces {
			all = append(all, piece)
		}
		if got := bytes.Join(all, nil); string(got) != "0123456789" {
			t.Fatalf("pieces %q", got)
		}
		for i, piece := range all {
			rest := bytes.Join(all[i+1:], nil)
			piece = append(piece, "xxxxxxx"...)
			for k := range piece {
				piece[k] = 'y'
			}
			if !bytes.Equal(bytes.Join(all[i+1:], nil), rest) {
				t.Fatalf("piece %d shares with one behind it", i)
			}
		}
	}
}

// P2: the patch is neither written into nor kept.
func TestPiecesKeepThePatch(t *testing.T) {
	p := roomy([]byte("0123456789"))
	pieces := firmware.Pieces(p, 4)
	for piece := range pieces {
		clear(piece[:cap(piece)])
	}
	wantRoomy(t, "the patch", p, []byte("0123456789"))
	clear(p)
	var got []byte
	for piece := range pieces {
		got = append(got, piece...)
	}
	if string(got) != "0123456789" {
		t.Errorf("pieces of a patch that was changed later: %q", got)
	}
}
