package seed

import (
	"math"
	"slices"
	"sync"
	"testing"

	"fountain/api"
	"fountain/params"
	"fountain/precode"
	"fountain/solve"
)

// known has the number of each k from 1 on, worked out beside the program.
var known = [api.MaxK]int{
	0, 0, 0, 0, 0, 0, 0, 0, 0, 0,
	1, 3, 0, 0, 0, 1, 0, 0, 0, 1,
	1, 0, 0, 0, 2, 0, 0, 1, 2, 0,
	3, 0, 0, 0, 0, 1, 0, 0, 2, 0,
}

// wrong are the k of which params.Of tells ErrArg.
var wrong = []int{
	0, -1, -2, -api.MaxK, api.MaxK + 1, api.MaxK + 2, 48, 100, 256,
	1 << 32, 1<<32 + 1, -1<<32 + 1, 1<<62 + 11, math.MinInt, math.MinInt + 1, math.MaxInt, math.MaxInt - 1,
}

func TestP901KnownNumbers(t *testing.T) {
	for i, want := range known {
		if j, err := Find(i + 1); j != want || err != api.OK {
			t.Errorf("P901: Find(%d): %d, error %d; want %d", i+1, j, err, want)
		}
	}
}

// rank has that of the matrix of the esis 0 to k - 1, and how many parts there are to be settled.
func rank(t *testing.T, k, j int) (int, int) {
	t.Helper()
	p, err := params.Of(k)
	if err != api.OK {
		t.Fatalf("Of(%d): error %d", k, err)
	}
	var esis []int
	for esi := range k {
		esis = append(esis, esi)
	}
	return solve.Rank(p.L(), precode.Matrix(p, j, esis...)...), p.L()
}

func TestP901LeastNumberOfFullRank(t *testing.T) {
	for k := 1; k <= api.MaxK; k++ {
		found, err := Find(k)
		if err != api.OK || found < 0 || found > 255 {
			t.Fatalf("P901: Find(%d): %d, error %d; want one from 0 to 255", k, found, err)
		}
		if got, parts := rank(t, k, found); got != parts {
			t.Errorf("P901: Find(%d): %d, with which the rank is %d; want %d", k, found, got, parts)
		}
		for j := range found {
			if got, parts := rank(t, k, j); got == parts {
				t.Errorf("P901: Find(%d): %d; with %d, too, the rank is %d", k, found, j, parts)
			}
		}
	}
}

func TestP901WrongK(t *testing.T) {
	for _, k := range wrong {
		if j, err := Find(k); j != 0 || err != api.ErrArg {
			t.Errorf("P901: Find(%d): %d, error %d; want 0, ErrArg", k, j, err)
		}
	}
}

// No k asks for a number above 3: so that all are tried in turn, and that there may be none, is asked of the search alone.
func TestP901LeastOfAll(t *testing.T) {
	for _, n := range []struct {
		name string
		can  func(j int) bool
		j    int
		err  api.Errno
	}{
		{"each", func(int) bool { return true }, 0, api.OK},
		{"two of them", func(j int) bool { return j == 77 || j == 200 }, 77, api.OK},
		{"all from one on", func(j int) bool { return j >= 128 }, 128, api.OK},
		{"the last", func(j int) bool { return j == 255 }, 255, api.OK},
		{"those beside", func(j int) bool { return j < 0 || j > 255 }, 0, api.ErrNone},
		{"none", func(int) bool { return false }, 0, api.ErrNone},
	} {
		if j, err := least(n.can); j != n.j || err != n.err {
			t.Errorf("P901: %s: %d, error %d; want %d, error %d", n.name, j, err, n.j, n.err)
		}
	}
}

// answer is what Find does of k.
type answer struct {
	k, j int
	err  api.Errno
}

func ask(k int) answer {
	j, err := Find(k)
	return answer{k, j, err}
}

// mixed are all k that can be, and between any two of them one that can't.
func mixed() []int {
	var l []int
	for i := range api.MaxK {
		l = append(l, i+1, wrong[i%len(wrong)])
	}
	return l
}

func TestP902AnswersHangOnArgumentsAlone(t *testing.T) {
	l := mixed()
	var first []answer
	for _, k := range l {
		first = append(first, ask(k))
	}
	for i, k := range l {
		if got := ask(k); got != first[i] {
			t.Errorf("P902: asked again: %v; at first %v", got, first[i])
		}
	}
	for i, k := range slices.Backward(l) {
		if got := ask(k); got != first[i] {
			t.Errorf("P902: asked in another order: %v; at first %v", got, first[i])
		}
	}
	for i := range l {
		// 37 steps through 80 places meet each of them once.
		at := i * 37 % len(l)
		if got, again := ask(l[at]), ask(l[at]); got != first[at] || again != first[at] {
			t.Errorf("P902: asked twice in a third order: %v, %v; at first %v", got, again, first[at])
		}
	}
}

func TestP902AskedAtOnce(t *testing.T) {
	l := mixed()
	var first []answer
	for _, k := range l {
		first = append(first, ask(k))
	}
	got := make([][]answer, 4)
	var all sync.WaitGroup
	for i := range got {
		all.Go(func() {
			for _, k := range l {
				got[i] = append(got[i], ask(k))
			}
		})
	}
	all.Wait()
	for i, answers := range got {
		if !slices.Equal(answers, first) {
			t.Errorf("P902: asked by %d others at once: %v; at first %v", i, answers, first)
		}
	}
}

// For the packages below: what the source symbols' numbers are.
func TestFirstEsis(t *testing.T) {
	for n, want := range map[int][]int{math.MinInt: nil, -1: nil, 0: nil, 1: {0}, 4: {0, 1, 2, 3}} {
		if got := FirstEsis(n); !slices.Equal(got, want) {
			t.Errorf("FirstEsis(%d): %v; want %v", n, got, want)
		}
	}
}
