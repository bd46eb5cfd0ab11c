package solve

import (
	"math"
	"slices"
	"testing"

	"fountain/api"
	"fountain/field"
	"fountain/rows"
)

// dice answer numbers that look thrown, the same ones for the same start.
type dice uint32

func (d *dice) below(n int) int {
	*d = *d*1664525 + 1013904223
	return int(*d>>8) % n
}

// row answers n elements, of which about one in every is not 0.
func (d *dice) row(n, every int) rows.Row {
	r := make(rows.Row, n)
	for i := range r {
		if d.below(every) == 0 {
			r[i] = byte(d.below(256))
		}
	}
	return r
}

func (d *dice) matrix(count, n, every int) []rows.Row {
	m := make([]rows.Row, count)
	for i := range m {
		m[i] = d.row(n, every)
	}
	return m
}

func (d *dice) shuffle(m []rows.Row) {
	for i := range m {
		k := d.below(i + 1)
		m[i], m[k] = m[k], m[i]
	}
}

// independent answers count rows of width elements that are independent by their shape: each is the first that is not 0 in a column of its own.
func (d *dice) independent(count, width int) []rows.Row {
	m := d.matrix(count, width, 1)
	for i, r := range m {
		clear(r[:i])
		r[i] = byte(1 + d.below(255))
	}
	return m
}

// mixed adds more rows that are mixed of those of m, and hides which ones they are.
func (d *dice) mixed(m []rows.Row, width, more int) []rows.Row {
	base := m
	for range more {
		m = append(m, rows.Mix(width, d.row(len(base), 1), base...))
	}
	d.shuffle(m)
	return m
}

// unit is a row that has 1 at i alone.
func unit(i int) rows.Row {
	r := make(rows.Row, i+1)
	r[i] = 1
	return r
}

// units are n of these, one a column.
func units(n int) []rows.Row {
	m := make([]rows.Row, n)
	for i := range m {
		m[i] = unit(i)
	}
	return m
}

func clones(m []rows.Row) []rows.Row {
	l := make([]rows.Row, len(m))
	for i, r := range m {
		l[i] = slices.Clone(r)
	}
	return l
}

func same(a, b []rows.Row) bool {
	return slices.EqualFunc(a, b, slices.Equal[rows.Row])
}

// determinant of the rows of m at the columns, by its definition along the first row.
func determinant(m []rows.Row, columns []int) byte {
	if len(columns) == 0 {
		return 1
	}
	sum := byte(0)
	for i, c := range columns {
		rest := slices.Delete(slices.Clone(columns), i, i+1)
		sum = field.Add(sum, field.Mul(m[0][c], determinant(m[1:], rest)))
	}
	return sum
}

// choices are all ways to choose k of n, each in rising order.
func choices(n, k int) [][]int {
	if k == 0 {
		return [][]int{{}}
	}
	var l [][]int
	for last := k - 1; last < n; last++ {
		for _, c := range choices(last, k-1) {
			l = append(l, append(c, last))
		}
	}
	return l
}

// byMinors is the rank as another definition has it: the size of the greatest square cut of m whose determinant is not 0.
func byMinors(width int, m []rows.Row) int {
	for k := min(width, len(m)); k > 0; k-- {
		for _, taken := range choices(len(m), k) {
			var cut []rows.Row
			for _, i := range taken {
				cut = append(cut, rows.Sum(width, m[i]))
			}
			for _, columns := range choices(width, k) {
				if determinant(cut, columns) != 0 {
					return k
				}
			}
		}
	}
	return 0
}

// holds tells whether x are width rows of size elements which, by each row of m, are d's: the definition.
func holds(width, size int, m, d, x []rows.Row) bool {
	if len(x) != width {
		return false
	}
	for _, r := range x {
		if len(r) != size {
			return false
		}
	}
	for i := range m {
		// Mix looks at no element of m's row that x has no row for.
		if !slices.Equal(rows.Mix(size, m[i], x...), rows.Sum(size, d[i])) {
			return false
		}
	}
	return true
}

func wantRank(t *testing.T, what string, width int, m []rows.Row, want int) {
	t.Helper()
	if got := Rank(width, m...); got != want {
		t.Errorf("P301: Rank of width %d of %s: %d; want %d", width, what, got, want)
	}
}

// wantErr asks for an error, beside which nothing is answered.
func wantErr(t *testing.T, what string, width, size int, m, d []rows.Row, want api.Errno) {
	t.Helper()
	if x, e := Solve(width, size, m, d); e != want || len(x) != 0 {
		t.Errorf("P301: Solve of width %d and size %d of %s: %v, error %d; want nothing, error %d", width, size, what, x, e, want)
	}
}

func wantRows(t *testing.T, what string, width, size int, m, d, want []rows.Row) {
	t.Helper()
	if x, e := Solve(width, size, m, d); e != api.OK || !same(x, want) {
		t.Errorf("P301: Solve of width %d and size %d of %s: %v, error %d; want %v", width, size, what, x, e, want)
	}
}

func TestP301RankOfNone(t *testing.T) {
	for _, width := range []int{math.MinInt, -1, 0, 1, 2, 3, 300, 301, math.MaxInt} {
		wantRank(t, "no rows", width, nil, 0)
		wantRank(t, "an empty list", width, []rows.Row{}, 0)
		wantRank(t, "empty rows", width, []rows.Row{nil, {}, nil}, 0)
		wantRank(t, "rows of 0", width, []rows.Row{{0}, {0, 0}, make(rows.Row, 500)}, 0)
	}
}

func TestP301RankByHand(t *testing.T) {
	for _, x := range []struct {
		width int
		m     []rows.Row
		want  int
	}{
		{1, []rows.Row{{255}}, 1},
		{1, []rows.Row{{3}, {5}, {7}}, 1},
		{2, []rows.Row{{1, 1}, {1, 1}}, 1},
		{2, []rows.Row{{1, 1}, {2, 2}}, 1},
		{2, []rows.Row{{1, 1}, {2, 3}}, 2},
		{2, []rows.Row{{1, 128}, {2, 29}}, 1}, // 2 times 128 is 29
		{2, []rows.Row{{1, 128}, {2, 0}}, 2},  // and not 256, cut to a byte
		{2, []rows.Row{{0, 1}, {1, 0}}, 2},
		{3, []rows.Row{{1, 1, 0}, {0, 1, 1}, {1, 0, 1}}, 2}, // 1 and 1 is 0
		{3, []rows.Row{{1, 1, 0}, {0, 1, 1}, {1, 0, 2}}, 3},
		{3, []rows.Row{{0, 0, 9}, {0, 8}, {7}}, 3},
		{3, []rows.Row{{0, 0, 9}, {0, 0, 8}, {0, 0, 7}}, 1},
	} {
		if got := Rank(x.width, x.m...); got != x.want {
			t.Errorf("P301: Rank of width %d of %v: %d; want %d", x.width, x.m, got, x.want)
		}
	}
}

func TestP301RankOfShortAndLongRows(t *testing.T) {
	short := []rows.Row{{1}, {1, 0}, {1, 0, 0}, {0, 1}, nil}
	long := []rows.Row{{1, 2, 3, 4}, {1, 2, 5, 6, 7}, {1, 2}, {0, 0, 9, 9, 9}}
	for width, want := range []int{0, 1, 2, 2, 2} {
		wantRank(t, "rows that are shorter", width, short, want)
	}
	for width, want := range []int{0, 1, 1, 2, 3, 4} {
		wantRank(t, "rows that are longer", width, long, want)
	}
}

func TestP301RankWidthIsCut(t *testing.T) {
	m := units(305)
	for _, x := range []struct{ width, want int }{
		{math.MinInt, 0}, {-300, 0}, {-1, 0}, {0, 0}, {1, 1}, {2, 2}, {299, 299}, {300, 300},
		{301, 300}, {305, 300}, {1 << 32, 300}, {1<<32 + 1, 300}, {math.MaxInt, 300},
	} {
		wantRank(t, "305 rows, each 1 in its own column", x.width, m, x.want)
	}
	wantRank(t, "a row that has 1 at 299", 400, []rows.Row{unit(299)}, 1)
	wantRank(t, "a row that has 1 at 300", 400, []rows.Row{unit(300)}, 0)
}

func TestP301RankByMinors(t *testing.T) {
	d := dice(1)
	counts := map[int]int{}
	for range 3000 {
		width := d.below(5)
		m := make([]rows.Row, d.below(7))
		for i := range m {
			m[i] = d.row(d.below(6), 2)
			for k := range m[i] {
				m[i][k] &= 3 // few elements, so that rows are often dependent
			}
		}
		want := byMinors(width, m)
		counts[want]++
		if got := Rank(width, m...); got != want {
			t.Fatalf("P301: Rank of width %d of %v: %d; want %d", width, m, got, want)
		}
	}
	for rank := range 5 {
		if counts[rank] < 20 {
			t.Errorf("only %d matrices of rank %d were asked", counts[rank], rank)
		}
	}
}

func TestP301RankOfMixed(t *testing.T) {
	d := dice(2)
	for range 60 {
		width := 1 + d.below(60)
		want := d.below(width + 1)
		m := d.mixed(d.independent(want, width), width, d.below(20))
		wantRank(t, "mixed rows", width, m, want)
		// No multiple of a row, and no row once more, makes it more.
		for _, r := range clones(m) {
			m = append(m, rows.Scale(byte(d.below(256)), r), r)
		}
		wantRank(t, "mixed rows and their multiples", width, m, want)
	}
	wantRank(t, "400 mixed rows", 300, d.mixed(d.independent(250, 300), 300, 150), 250)
	wantRank(t, "330 mixed rows", 300, d.mixed(d.independent(300, 300), 300, 30), 300)
}

func TestP301SolveArguments(t *testing.T) {
	one := []rows.Row{{1}}
	for _, bad := range []int{math.MinInt, -1, 0, 301, 1001, math.MaxInt} {
		wantErr(t, "one row", bad, 1, one, one, api.ErrArg)
		wantErr(t, "no rows", bad, 1, nil, nil, api.ErrArg)
	}
	for _, bad := range []int{math.MinInt, -1, 0, 1001, 1 << 32, math.MaxInt} {
		wantErr(t, "one row", 1, bad, one, one, api.ErrArg)
		wantErr(t, "no rows", 1, bad, nil, nil, api.ErrArg)
	}
	wantErr(t, "fewer rows in d", 1, 1, one, nil, api.ErrArg)
	wantErr(t, "more rows in d", 1, 1, nil, one, api.ErrArg)
	wantErr(t, "more rows in d", 1, 1, one, []rows.Row{{1}, {1}}, api.ErrArg)
	wantErr(t, "fewer rows in d", 2, 1, units(2), one, api.ErrArg)
}

func TestP301SolveWhichError(t *testing.T) {
	one, zero := []rows.Row{{1}}, []rows.Row{{0}}
	// Too low a rank, or no such rows, beside an argument that can't be: that is told.
	wantErr(t, "a rank below the width", 301, 1, one, one, api.ErrArg)
	wantErr(t, "a rank below the width", 0, 1, zero, one, api.ErrArg)
	wantErr(t, "a rank below the width", 2, 1001, one, one, api.ErrArg)
	wantErr(t, "a rank below the width", 2, 0, one, one, api.ErrArg)
	wantErr(t, "a rank below the width", 2, 1, one, nil, api.ErrArg)
	wantErr(t, "a rank below the width", 2, 1, nil, one, api.ErrArg)
	wantErr(t, "no such rows", 0, 1, zero, one, api.ErrArg)
	wantErr(t, "no such rows", 1, 1, []rows.Row{{1}, {1}}, []rows.Row{{1}, {2}, {3}}, api.ErrArg)
	// Both of the rank's kind.
	wantErr(t, "a rank below the width and no such rows", 2, 1, []rows.Row{{1}, {1}}, []rows.Row{{1}, {2}}, api.ErrRank)
}

func TestP301SolveRankBelowWidth(t *testing.T) {
	wantErr(t, "no rows", 1, 1, nil, nil, api.ErrRank)
	wantErr(t, "no rows", 300, 1000, nil, []rows.Row{}, api.ErrRank)
	wantErr(t, "a row of 0", 1, 1, []rows.Row{{0}}, []rows.Row{{0}}, api.ErrRank)
	wantErr(t, "an empty row", 1, 1, []rows.Row{nil}, []rows.Row{nil}, api.ErrRank)
	wantErr(t, "a row that begins beyond the width", 1, 1, []rows.Row{{0, 1}}, []rows.Row{{0}}, api.ErrRank)
	wantErr(t, "fewer rows than columns", 3, 1, units(2), units(2), api.ErrRank)
	wantErr(t, "rows that are one in all", 2, 1, []rows.Row{{1, 2}, {1, 2}, {1, 2}}, []rows.Row{{5}, {5}, {5}}, api.ErrRank)
	wantErr(t, "as many rows, one the others' sum", 3, 1, []rows.Row{{1, 1}, {0, 1, 1}, {1, 0, 1}}, []rows.Row{{1}, {2}, {3}}, api.ErrRank)
	wantErr(t, "299 columns of 300", 300, 1, units(299), units(299), api.ErrRank)
}

func TestP301SolveByHand(t *testing.T) {
	one := []rows.Row{{1}}
	wantRows(t, "1 x = 7", 1, 1, one, []rows.Row{{7}}, []rows.Row{{7}})
	wantRows(t, "2 x = 29", 1, 1, []rows.Row{{2}}, []rows.Row{{29}}, []rows.Row{{128}})
	wantRows(t, "x = 0", 1, 1, []rows.Row{{9}}, []rows.Row{{0}}, []rows.Row{{0}})
	wantRows(t, "columns in another order", 2, 2, []rows.Row{{0, 1}, {1}}, []rows.Row{{3, 4}, {5, 6}}, []rows.Row{{5, 6}, {3, 4}})
	wantRows(t, "x + y = 7, y = 5", 2, 1, []rows.Row{{1, 1}, {0, 1}}, []rows.Row{{7}, {5}}, []rows.Row{{2}, {5}})
	wantRows(t, "x + y = 7, 2 x + y = 5", 2, 1, []rows.Row{{1, 1}, {2, 1}}, []rows.Row{{7}, {5}}, []rows.Row{{field.Mul(2, field.Inv(3))}, {field.Add(7, field.Mul(2, field.Inv(3)))}})
}

func TestP301SolveShortAndLongRows(t *testing.T) {
	m := []rows.Row{{1}, {1, 1, 9, 9}}
	wantRows(t, "rows of d that are shorter", 2, 3, m, []rows.Row{{1, 2}, nil}, []rows.Row{{1, 2, 0}, {1, 2, 0}})
	wantRows(t, "rows of d that are longer", 2, 1, m, []rows.Row{{1, 2}, {3, 4, 5}}, []rows.Row{{1}, {2}})
	wantRows(t, "empty rows of d", 2, 2, m, []rows.Row{nil, {}}, []rows.Row{{0, 0}, {0, 0}})
	wantRows(t, "rows that differ beyond the width and the size alone", 1, 1, []rows.Row{{1, 5}, {1, 6}}, []rows.Row{{4, 7}, {4, 8}}, []rows.Row{{4}})
}

func TestP301SolveMoreRowsThanWidth(t *testing.T) {
	m := []rows.Row{{1}, {0, 1}, {1, 1}}
	wantRows(t, "a third row that fits", 2, 1, m, []rows.Row{{1}, {2}, {3}}, []rows.Row{{1}, {2}})
	wantErr(t, "a third row that does not", 2, 1, m, []rows.Row{{1}, {2}, {4}}, api.ErrRank)
	wantErr(t, "a third row that does not, at its last element", 2, 3, m, []rows.Row{{1}, {2}, {3, 0, 1}}, api.ErrRank)
	wantRows(t, "a third row that does not, beyond the size", 2, 2, m, []rows.Row{{1}, {2}, {3, 0, 1}}, []rows.Row{{1, 0}, {2, 0}})
	wantRows(t, "rows of 0 that are 0", 1, 1, []rows.Row{nil, {0}, {2}, {0, 7}}, []rows.Row{nil, {0}, {2}, {0, 1}}, []rows.Row{{1}})
	wantErr(t, "a row of 0 that is not 0, first", 1, 1, []rows.Row{{0}, {2}}, []rows.Row{{1}, {2}}, api.ErrRank)
	wantErr(t, "a row of 0 that is not 0, last", 1, 1, []rows.Row{{2}, nil}, []rows.Row{{2}, {1}}, api.ErrRank)
	wantErr(t, "a row beyond the width that is not 0", 1, 1, []rows.Row{{2}, {0, 1}}, []rows.Row{{2}, {1}}, api.ErrRank)
	wantRows(t, "one row again and again", 1, 1, []rows.Row{{3}, {3}, {3}, {6}}, []rows.Row{{3}, {3}, {3}, {6}}, []rows.Row{{1}})
}

func TestP301SolveTellsTheOnlyRows(t *testing.T) {
	d := dice(3)
	for range 400 {
		width, size := 1+d.below(20), 1+d.below(40)
		x := d.matrix(width, size, 1)
		m := d.mixed(d.independent(width, width), width, d.below(6))
		var right []rows.Row
		for i := range m {
			right = append(right, rows.Mix(size, m[i], x...))
			m[i] = append(m[i], d.row(d.below(3), 1)...) // beyond the width: left out
		}
		wantRows(t, "mixed rows", width, size, m, right, x)
	}
}

func TestP301SolveByDefinition(t *testing.T) {
	d := dice(4)
	solved, low, none := 0, 0, 0
	for range 3000 {
		width, size := 1+d.below(4), 1+d.below(3)
		m, right := d.matrix(d.below(6), width, 2), []rows.Row{}
		for _, r := range m {
			for k := range r {
				r[k] &= 1
			}
			right = append(right, d.row(size, 4))
		}
		x, e := Solve(width, size, m, right)
		switch {
		case byMinors(width, m) < width:
			low++
			if e != api.ErrRank || len(x) != 0 {
				t.Fatalf("P301: Solve of %v and %v: %v, error %d; the rank is below %d", m, right, x, e, width)
			}
		case e == api.ErrRank && len(x) == 0:
			none++
			if solvable(width, size, m, right) {
				t.Fatalf("P301: Solve of %v and %v: error %d; there are such rows", m, right, e)
			}
		default:
			solved++
			if e != api.OK || !holds(width, size, m, right, x) {
				t.Fatalf("P301: Solve of %v and %v: %v, error %d", m, right, x, e)
			}
		}
	}
	if min(solved, low, none) < 100 {
		t.Errorf("too few were asked: %d with an answer, %d of too low a rank, %d without such rows", solved, low, none)
	}
}

// solvable tells, of a matrix whose rank is its width, whether there are such rows: just if d's columns beside m's make the rank no greater.
func solvable(width, size int, m, d []rows.Row) bool {
	for at := range size {
		var beside []rows.Row
		for i := range m {
			beside = append(beside, append(rows.Sum(width, m[i]), rows.Sum(size, d[i])[at]))
		}
		if byMinors(width+1, beside) > width {
			return false
		}
	}
	return true
}

func TestP301SolveOfTheGreatest(t *testing.T) {
	d := dice(5)
	m, x := d.mixed(d.independent(300, 300), 300, 5), d.matrix(300, 1000, 1)
	var right []rows.Row
	for _, r := range m {
		right = append(right, rows.Mix(1000, r, x...))
	}
	if got, e := Solve(300, 1000, m, right); e != api.OK || !same(got, x) {
		t.Errorf("P301: Solve of width 300 and size 1000: %d rows, error %d; want other ones", len(got), e)
	}
	right[304][999] ^= 1
	wantErr(t, "a last element that does not fit", 300, 1000, m, right, api.ErrRank)
}

// handed is what is handed in: rows that lie within greater ones, in lists that have room behind them.
type handed struct{ wholeM, wholeD, m, d []rows.Row }

// hand makes it, of count rows of two elements: the first two are independent, the third is their sum, and d's fits or does not, as is asked.
func hand(count int, fits bool) handed {
	h := handed{
		wholeM: []rows.Row{{9, 1, 2, 9, 9}, {9, 0, 3, 9, 9}, {9, 1, 1, 9, 9}, {9, 9, 9, 9, 9}},
		wholeD: []rows.Row{{8, 5, 6, 8, 8}, {8, 0, 3, 8, 8}, {8, 5, 5, 8, 8}, {8, 8, 8, 8, 8}},
	}
	if !fits {
		h.wholeD[2][1] = 77
	}
	for i := range h.wholeM {
		h.m = append(h.m, h.wholeM[i][1:3])
		h.d = append(h.d, h.wholeD[i][1:3])
	}
	h.m, h.d = h.m[:count], h.d[:count]
	return h
}

func (h handed) same(g handed) bool {
	return same(h.wholeM, g.wholeM) && same(h.wholeD, g.wholeD) && same(h.m[:4], g.m[:4]) && same(h.d[:4], g.d[:4])
}

// turn makes all of it other than it was.
func (h handed) turn() {
	for i := range h.wholeM {
		clear(h.wholeM[i])
		clear(h.wholeD[i])
	}
	clear(h.m[:4])
	clear(h.d[:4])
}

// cases are hands with one answer, with too low a rank, with no such rows.
func cases() []func() handed {
	return []func() handed{
		func() handed { return hand(2, true) },
		func() handed { return hand(3, true) },
		func() handed { return hand(1, true) },
		func() handed { return hand(3, false) },
		func() handed { return hand(0, true) },
	}
}

func TestP302HandedInStays(t *testing.T) {
	for i, c := range cases() {
		h := c()
		Rank(2, h.m...)
		Rank(5, h.d...)
		if !h.same(c()) {
			t.Errorf("P302: Rank, case %d, turned what was handed in: %v; was %v", i, h, c())
		}
		for _, size := range []int{1, 2, 4, 0} {
			Solve(2, size, h.m, h.d)
			if !h.same(c()) {
				t.Errorf("P302: Solve of size %d, case %d, turned what was handed in: %v; was %v", size, i, h, c())
			}
		}
	}
}

func TestP302NewMemory(t *testing.T) {
	for _, count := range []int{2, 3} {
		h := hand(count, true)
		got, _ := Solve(2, 2, h.m, h.d)
		other, _ := Solve(2, 2, h.m, h.d)
		want := clones(other)
		if len(got) != 2 {
			t.Fatalf("P302: Solve of %d rows: %v", count, got)
		}
		for i, r := range got {
			whole := r[:cap(r)]
			for k := range whole {
				whole[k] ^= 255
			}
			if i == 0 && !slices.Equal(got[1], want[1]) {
				t.Error("P302: two rows of one answer share memory")
			}
		}
		clear(got[:cap(got)])
		if !h.same(hand(count, true)) {
			t.Error("P302: what Solve answered shares memory with what was handed in")
		}
		if !same(other, want) {
			t.Error("P302: two answers of Solve share memory")
		}
	}
}

func TestP302NotKept(t *testing.T) {
	for i, c := range cases() {
		h := c()
		rank := Rank(2, h.m...)
		x, e := Solve(2, 2, h.m, h.d)
		want := clones(x)
		h.turn()
		if !same(x, want) {
			t.Errorf("P302: Solve, case %d, answered %v; when what was handed in turned, it became %v", i, want, x)
		}
		h = c()
		if got := Rank(2, h.m...); got != rank {
			t.Errorf("P302: Rank, case %d, of the same rows: %d; at first %d", i, got, rank)
		}
		if got, f := Solve(2, 2, h.m, h.d); f != e || !same(got, want) {
			t.Errorf("P302: Solve, case %d, of the same rows: %v, error %d; at first %v, error %d", i, got, f, want, e)
		}
	}
}
