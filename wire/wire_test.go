package wire

import (
	"bytes"
	"math"
	"testing"
)

// written are numbers and widths, and the bytes that they are, the highest first.
var written = []struct {
	width int
	l     []int
	b     []byte
}{
	{1, []int{0}, []byte{0}},
	{1, []int{1, 255}, []byte{1, 255}},
	{2, []int{0x0102, 0, 65535}, []byte{1, 2, 0, 0, 255, 255}},
	{3, []int{0x010203, 1<<24 - 1}, []byte{1, 2, 3, 255, 255, 255}},
	{4, []int{0x01020304, 1<<31 - 1, 1<<32 - 1}, []byte{1, 2, 3, 4, 127, 255, 255, 255, 255, 255, 255, 255}},
	{2, nil, nil},
}

func TestP1401NumbersAreBytes(t *testing.T) {
	for _, c := range written {
		if got := Append(nil, c.width, c.l...); !bytes.Equal(got, c.b) {
			t.Errorf("P1401: Append(nil, %d, %d) is %x, not %x", c.width, c.l, got, c.b)
		}
		if got := Append([]byte{7, 8}, c.width, c.l...); !bytes.Equal(got, append([]byte{7, 8}, c.b...)) {
			t.Errorf("P1401: Append(7 8, %d, %d) is %x", c.width, c.l, got)
		}
	}
}

func TestP1401OfGreaterNumbersTheLowestBytes(t *testing.T) {
	for _, c := range []struct {
		width, n int
		b        []byte
	}{
		{1, 256, []byte{0}}, {1, -1, []byte{255}}, {2, 0x010203, []byte{2, 3}},
		{4, math.MinInt, []byte{0, 0, 0, 0}}, {4, math.MaxInt, []byte{255, 255, 255, 255}},
	} {
		if got := Append(nil, c.width, c.n); !bytes.Equal(got, c.b) {
			t.Errorf("P1401: Append(nil, %d, %d) is %x, not %x", c.width, c.n, got, c.b)
		}
	}
}

func TestP1401BytesAreNumbers(t *testing.T) {
	for _, c := range written {
		from := Of(append(bytes.Clone(c.b), 5, 6))
		for i, n := range c.l {
			if got := from.Number(c.width); got != n {
				t.Errorf("P1401: Number(%d) of %x at %d is %d, not %d", c.width, c.b, i, got, n)
			}
		}
		if got := from.Rest(); !bytes.Equal(got, []byte{5, 6}) || from.Short() {
			t.Errorf("P1401: Rest behind %x is %x, Short %v", c.b, got, from.Short())
		}
		if got := from.Rest(); len(got) != 0 {
			t.Errorf("P1401: Rest is told again: %x", got)
		}
	}
}

func TestP1401TooFewBytesStayShort(t *testing.T) {
	for width := 1; width <= 4; width++ {
		for n := range width {
			from := Of(bytes.Repeat([]byte{9}, n))
			if got := from.Number(width); got != 0 || !from.Short() {
				t.Errorf("P1401: Number(%d) of %d bytes is %d, Short %v", width, n, got, from.Short())
			}
			if got := from.Number(1); got != 0 || !from.Short() {
				t.Errorf("P1401: behind a Short one Number is %d, Short %v", got, from.Short())
			}
		}
	}
	if from := Of(nil); from.Short() || len(from.Rest()) != 0 {
		t.Error("P1401: a reader of nothing is Short, or has something")
	}
}

func TestP2201PiecesAreTakenOneBehindTheOther(t *testing.T) {
	b := []byte{1, 2, 3, 4, 5, 6}
	from := Of(b)
	for _, want := range [][]byte{{1, 2}, nil, {3}} {
		if got := from.Piece(len(want)); !bytes.Equal(got, want) || from.Short() {
			t.Errorf("P2201: Piece(%d) is %x, Short %v, not %x", len(want), got, from.Short(), want)
		}
	}
	if got := from.Number(2); got != 4*256+5 {
		t.Errorf("P2201: behind pieces Number(2) is %d", got)
	}
	// What is put behind a piece goes elsewhere.
	if piece := append(Of(b).Piece(2), 9); len(piece) != 3 || b[2] != 3 {
		t.Errorf("P2201: behind a piece there is room: %x", b)
	}
	if got := from.Piece(1); !bytes.Equal(got, []byte{6}) || from.Short() || len(from.Rest()) != 0 {
		t.Errorf("P2201: the last piece is %x, Short %v", got, from.Short())
	}
}

func TestP2201TooFewBytesAreNoPiece(t *testing.T) {
	for n := range 4 {
		from := Of([]byte{9, 9, 9}[:n])
		if got := from.Piece(n + 1); len(got) != 0 || !from.Short() {
			t.Errorf("P2201: Piece(%d) of %d bytes is %x, Short %v", n+1, n, got, from.Short())
		}
		if got := from.Piece(0); len(got) != 0 || from.Number(1) != 0 || !from.Short() {
			t.Errorf("P2201: behind a Short one Piece(0) is %x, Short %v", got, from.Short())
		}
	}
	from := Of([]byte{9, 9, 9})
	if from.Number(4) != 0 || len(from.Piece(1)) != 0 || !from.Short() {
		t.Error("P2201: behind a Short number there are pieces")
	}
}
