// Package wire writes numbers as bytes, the highest first, and reads them, and pieces, from the beginning of bytes.
package wire

// Append answers b and, behind it (in its spare room, if there is any), the numbers as width bytes each; of a number that has more, the lowest.
func Append(b []byte, width int, l ...int) []byte {
	for _, n := range l {
		for i := width - 1; i >= 0; i-- {
			b = append(b, byte(n>>(8*i)))
		}
	}
	return b
}

// Reader takes what stands at the beginning of bytes, piece by piece. Once there is too little it takes nothing more, so that it is enough to ask at the end whether it was Short.
type Reader struct {
	left  []byte
	short bool
}

// Of answers a reader of these bytes, which it shares.
func Of(b []byte) *Reader {
	return &Reader{left: b}
}

// Number takes the number that the next width bytes tell; 0 if there are too few.
func (r *Reader) Number(width int) int {
	n := 0
	for _, b := range r.Piece(width) {
		n = n<<8 | int(b)
	}
	return n
}

// Piece takes the next n bytes; nothing if there are too few. They are shared with the bytes that are read.
func (r *Reader) Piece(n int) []byte {
	if r.short || len(r.left) < n {
		r.short = true
		return nil
	}
	piece := r.left[:n:n]
	r.left = r.left[n:]
	return piece
}

// Rest takes all that is left; it is shared with the bytes that are read.
func (r *Reader) Rest() []byte {
	rest := r.left
	r.left = nil
	return rest
}

// Short tells whether a number or a piece was asked for of which there were too few bytes.
func (r *Reader) Short() bool {
	return r.short
}
