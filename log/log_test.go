package log

import (
	"bytes"
	"math"
	"slices"
	"strings"
	"sync"
	"testing"

	"fountain/api"
)

// twin is a log kept by the chapter's words alone, as the bytes that stand in it.
type twin struct {
	written []byte
	sure    int
}

func (w *twin) append(b []byte) {
	w.written = append(w.written, byte(len(b)/256), byte(len(b)%256))
	w.written = append(w.written, b...)
}

func (w *twin) crash(keep int) {
	unsure := len(w.written) - w.sure
	if keep < 0 {
		keep = 0
	}
	if keep > unsure {
		keep = unsure
	}
	w.written = w.written[:w.sure+keep]
	whole := 0
	for _, b := range w.all() {
		whole += 2 + len(b)
	}
	w.written = w.written[:whole]
	w.sure = whole
}

// all are the whole pieces that the bytes spell.
func (w *twin) all() [][]byte {
	var all [][]byte
	left := w.written
	for len(left) >= 2 {
		n := int(left[0])*256 + int(left[1])
		if len(left) < 2+n {
			break
		}
		all = append(all, bytes.Clone(left[2:2+n]))
		left = left[2+n:]
	}
	return all
}

// spelled are the pieces as the bytes that they are in a log, one behind the other.
func spelled(l [][]byte) []byte {
	var w twin
	for _, b := range l {
		w.append(b)
	}
	return w.written
}

// texts are the pieces as texts.
func texts(l [][]byte) []string {
	var all []string
	for _, b := range l {
		all = append(all, string(b))
	}
	return all
}

// begun are the beginnings of the pieces, to be read in a fault's report.
func begun(l [][]byte) []string {
	all := texts(l)
	for i, s := range all {
		all[i] = s[:min(len(s), 12)]
	}
	return all
}

func samePieces(a, b [][]byte) bool {
	return slices.EqualFunc(a, b, bytes.Equal)
}

// check asks what the log has.
func check(t *testing.T, promise, when string, l *Log, want [][]byte) {
	t.Helper()
	if got := l.All(); !samePieces(got, want) {
		t.Errorf("%s: %s: All is %d pieces %q, not %d %q", promise, when, len(got), begun(got), len(want), begun(want))
	}
	if got := l.Len(); got != len(spelled(want)) {
		t.Errorf("%s: %s: Len is %d, not %d", promise, when, got, len(spelled(want)))
	}
}

// pieces are texts as pieces.
func pieces(l ...string) [][]byte {
	var all [][]byte
	for _, s := range l {
		all = append(all, []byte(s))
	}
	return all
}

// put Appends all of these.
func put(t *testing.T, l *Log, all ...string) {
	t.Helper()
	for _, s := range all {
		if err := l.Append([]byte(s)); err != api.OK {
			t.Errorf("P1501: Append of %d bytes is %d", len(s), err)
		}
	}
}

// long is a piece of n bytes, of which no two neighbours are one.
func long(n int) []byte {
	b := make([]byte, n)
	for i := range b {
		b[i] = byte(31*i + n + i/256)
	}
	return b
}

// chance makes numbers.
type chance uint32

func (c *chance) below(n int) int {
	*c = *c*1664525 + 1013904223
	return int(*c>>9) % n
}

func (c *chance) bytes(n int) []byte {
	b := make([]byte, n)
	for i := range b {
		b[i] = byte(c.below(256))
	}
	return b
}

func TestP1501Example(t *testing.T) {
	var l Log
	if l.Len() != 0 || new(Log).Len() != 0 {
		t.Errorf("P1501: Len of a new one is %d", l.Len())
	}
}

func TestP1501ZeroValueIsEmpty(t *testing.T) {
	for _, tell := range []func(l *Log){
		func(l *Log) {},
		func(l *Log) { l.Sure() },
		func(l *Log) { l.Sure(); l.Sure() },
		func(l *Log) { l.Crash(0) },
		func(l *Log) { l.Crash(1); l.Crash(math.MaxInt) },
		func(l *Log) { l.Crash(math.MinInt); l.Sure(); l.Crash(-1) },
		func(l *Log) { l.All(); l.Len() },
	} {
		l := &Log{}
		tell(l)
		check(t, "P1501", "nothing written", l, nil)
		put(t, l, "a", "")
		check(t, "P1501", "the first ones", l, pieces("a", ""))
		l.Crash(4)
		check(t, "P1501", "one byte of a piece is missing", l, pieces("a"))
	}
	var within struct{ Log }
	put(t, &within.Log, "x")
	check(t, "P1501", "embedded", &within.Log, pieces("x"))
}

func TestP1501PiecesOfManyLengths(t *testing.T) {
	var l Log
	var want [][]byte
	whole := 0
	for _, n := range []int{0, 1, 2, 3, 4, 5, 0, 0, 7, 8, 15, 16, 63, 64, 65, 88, 254, 255, 256, 257, 258, 511, 512, 513, 4000, 65279, 65280, 65281, 65533, 65534, 65535} {
		if err := l.Append(long(n)); err != api.OK {
			t.Errorf("P1501: Append of %d bytes is %d", n, err)
		}
		want = append(want, long(n))
		whole += 2 + n
		check(t, "P1501", "many lengths", &l, want)
		if l.Len() != whole {
			t.Errorf("P1501: behind a piece of %d bytes Len is %d, not %d", n, l.Len(), whole)
		}
	}
}

// lengths are those that a piece may have: the short ones all, of the others those where a byte of the length turns over.
func lengths() []int {
	var all []int
	for n := range 1 << 16 {
		if n < 600 || n%256 < 2 || n%256 == 255 {
			all = append(all, n)
		}
	}
	return all
}

func TestP1501EachLengthAlone(t *testing.T) {
	for _, n := range lengths() {
		var l Log
		err := l.Append(long(n))
		if all := l.All(); err != api.OK || l.Len() != n+2 || len(all) != 1 || !bytes.Equal(all[0], long(n)) {
			t.Fatalf("P1501: Append of %d bytes is %d, Len %d", n, err, l.Len())
		}
		l.Crash(n + 1)
		if l.Len() != 0 || len(l.All()) != 0 {
			t.Fatalf("P1501: of a piece of %d bytes, one of them lost, Len is %d", n, l.Len())
		}
		l.Append(long(n))
		l.Crash(n + 2)
		if l.Len() != n+2 || len(l.All()) != 1 {
			t.Fatalf("P1501: of a piece of %d bytes, all of them kept, Len is %d", n, l.Len())
		}
	}
}

func TestP1501EveryByteStays(t *testing.T) {
	var l Log
	var want [][]byte
	for x := range 256 {
		b := []byte{byte(x), 0, byte(255 - x), byte(x)}
		l.Append(b)
		want = append(want, bytes.Clone(b))
	}
	check(t, "P1501", "all bytes that there are", &l, want)
}

func TestP1501PiecesThatLookLikeLengths(t *testing.T) {
	var l Log
	all := pieces("\x00\x00", "\x00\x01", "\xff\xff", "\x00", "\x00\x02\x00", "", "\x00\x00\x00\x00")
	put(t, &l, texts(all)...)
	check(t, "P1501", "bytes as of lengths", &l, all)
	for keep := range len(spelled(all)) + 2 {
		var l Log
		put(t, &l, texts(all)...)
		l.Crash(keep)
		want := twin{written: spelled(all)}
		want.crash(keep)
		check(t, "P1501", "bytes as of lengths, behind a crash", &l, want.all())
	}
}

func TestP1501EqualPiecesAllCount(t *testing.T) {
	var l Log
	put(t, &l, "a", "a", "", "a", "", "")
	check(t, "P1501", "equal ones", &l, pieces("a", "a", "", "a", "", ""))
	l.Crash(9)
	check(t, "P1501", "equal ones, behind a crash", &l, pieces("a", "a", ""))
}

func TestP1501EmptyPieces(t *testing.T) {
	var l Log
	for i, b := range [][]byte{nil, {}, make([]byte, 0, 9), nil} {
		if err := l.Append(b); err != api.OK || l.Len() != 2*(i+1) {
			t.Errorf("P1501: the %d-th Append of no bytes is %d, Len %d", i, err, l.Len())
		}
		check(t, "P1501", "pieces of no bytes", &l, make([][]byte, i+1))
	}
	l.Crash(5)
	check(t, "P1501", "pieces of no bytes, behind a crash", &l, make([][]byte, 2))
	l.Crash(0)
	check(t, "P1501", "pieces of no bytes, sure", &l, make([][]byte, 2))
}

// tooLong are lengths that are refused: the first one that is, some whose lowest 16 bits tell a short one, some more.
func tooLong() []int {
	return []int{1 << 16, 1<<16 + 1, 1<<16 + 2, 1<<17 - 1, 1 << 17, 1 << 20, 1<<24 + 3}
}

func TestP1501TooLongPieces(t *testing.T) {
	for _, n := range tooLong() {
		b := make([]byte, n)
		var l Log
		if err := l.Append(b); err != api.ErrLong {
			t.Errorf("P1501: Append of %d bytes is %d", n, err)
		}
		check(t, "P1501", "a refused one alone", &l, nil)
		put(t, &l, "sure")
		l.Append(b)
		l.Sure()
		l.Append(b)
		put(t, &l, "", "perhaps")
		if err := l.Append(b); err != api.ErrLong {
			t.Errorf("P1501: Append of %d bytes behind others is %d", n, err)
		}
		check(t, "P1501", "refused ones between", &l, pieces("sure", "", "perhaps"))
		l.Crash(10)
		check(t, "P1501", "refused ones, one byte short", &l, pieces("sure", ""))
	}
}

func TestP1501RefusedMakesNothingSure(t *testing.T) {
	for _, n := range tooLong() {
		var l Log
		put(t, &l, "a")
		l.Sure()
		put(t, &l, "b", "c")
		l.Append(make([]byte, n))
		l.Crash(3)
		check(t, "P1501", "a refused one, then a crash", &l, pieces("a", "b"))
		put(t, &l, "d")
		l.Append(make([]byte, n))
		l.Crash(0)
		check(t, "P1501", "a refused one, then one more", &l, pieces("a", "b"))
	}
}

func TestP1501LongestPiecesBehindACrash(t *testing.T) {
	for _, c := range []struct{ keep, left int }{
		{0, 1}, {1, 1}, {2, 1}, {65535, 1}, {65536, 1}, {65537, 2}, {65538, 2}, {65539, 3}, {131075, 3}, {131076, 4}, {131077, 4}, {math.MaxInt, 4},
	} {
		all := [][]byte{long(65535), long(65535), nil, long(65535)}
		var l Log
		l.Append(all[0])
		l.Sure()
		for _, b := range all[1:] {
			l.Append(b)
		}
		l.Crash(c.keep)
		check(t, "P1501", "longest pieces", &l, all[:c.left])
	}
}

// crashes are what was sure, what was not, with how many bytes kept, what is left: by hand.
var crashes = []struct {
	sure, unsure []string
	keep         int
	left         []string
}{
	{nil, nil, 0, nil},
	{nil, nil, 5, nil},
	{nil, []string{"ab", "c"}, -1, nil},
	{nil, []string{"ab", "c"}, 0, nil},
	{nil, []string{"ab", "c"}, 1, nil},
	{nil, []string{"ab", "c"}, 2, nil},
	{nil, []string{"ab", "c"}, 3, nil},
	{nil, []string{"ab", "c"}, 4, []string{"ab"}},
	{nil, []string{"ab", "c"}, 5, []string{"ab"}},
	{nil, []string{"ab", "c"}, 6, []string{"ab"}},
	{nil, []string{"ab", "c"}, 7, []string{"ab", "c"}},
	{nil, []string{"ab", "c"}, 8, []string{"ab", "c"}},
	{nil, []string{""}, 1, nil},
	{nil, []string{""}, 2, []string{""}},
	{nil, []string{"", "", "x"}, 3, []string{""}},
	{nil, []string{"", "", "x"}, 4, []string{"", ""}},
	{nil, []string{"", "", "x"}, 6, []string{"", ""}},
	{nil, []string{"", "", "x"}, 7, []string{"", "", "x"}},
	{[]string{"s"}, nil, 0, []string{"s"}},
	{[]string{"s"}, nil, 1, []string{"s"}},
	{[]string{"s"}, nil, math.MinInt, []string{"s"}},
	{[]string{"s"}, nil, math.MaxInt, []string{"s"}},
	{[]string{"s", "tt"}, []string{"u"}, 0, []string{"s", "tt"}},
	{[]string{"s", "tt"}, []string{"u"}, -7, []string{"s", "tt"}},
	{[]string{"s", "tt"}, []string{"u"}, 2, []string{"s", "tt"}},
	{[]string{"s", "tt"}, []string{"u"}, 3, []string{"s", "tt", "u"}},
	{[]string{"s", "tt"}, []string{"u"}, 7, []string{"s", "tt", "u"}},
	{[]string{"s", "tt"}, []string{"u", ""}, 4, []string{"s", "tt", "u"}},
	{[]string{"s", "tt"}, []string{"u", ""}, 5, []string{"s", "tt", "u", ""}},
	{[]string{"s", "tt"}, []string{"u", ""}, math.MaxInt, []string{"s", "tt", "u", ""}},
	{[]string{"s", "tt"}, []string{"u", ""}, math.MaxInt - 1, []string{"s", "tt", "u", ""}},
	{[]string{"s", "tt"}, []string{"u", ""}, math.MinInt, []string{"s", "tt"}},
	{[]string{"s", "tt"}, []string{"u", ""}, math.MinInt + 1, []string{"s", "tt"}},
}

func TestP1501CrashesByHand(t *testing.T) {
	for _, c := range crashes {
		var l Log
		put(t, &l, c.sure...)
		l.Sure()
		put(t, &l, c.unsure...)
		l.Crash(c.keep)
		if got := texts(l.All()); !slices.Equal(got, c.left) {
			t.Errorf("P1501: of sure %q and unsure %q Crash(%d) left %q, not %q", c.sure, c.unsure, c.keep, got, c.left)
		}
		if want := len(strings.Join(c.left, "")) + 2*len(c.left); l.Len() != want {
			t.Errorf("P1501: of sure %q and unsure %q Crash(%d) left Len %d, not %d", c.sure, c.unsure, c.keep, l.Len(), want)
		}
	}
}

// keeps are numbers of bytes to keep of so many: each of them, some beyond, some at the ends of ints.
func keeps(n int) []int {
	l := []int{math.MinInt, math.MinInt + 1, -1 << 32, -1 << 31, -n - 1, -n, -3, -2, -1}
	for keep := range n + 4 {
		l = append(l, keep)
	}
	return append(l, 2*n+5, 1<<16, 1<<31, 1<<32, 1<<32+1, math.MaxInt-1, math.MaxInt)
}

func TestP1501EveryKeepOfManyLogs(t *testing.T) {
	all := pieces("one", "", "two2", "3", "", "", "sixth", "7777777")
	for sure := range len(all) + 1 {
		for _, keep := range keeps(len(spelled(all[sure:]))) {
			var l Log
			put(t, &l, texts(all[:sure])...)
			l.Sure()
			put(t, &l, texts(all[sure:])...)
			w := twin{written: spelled(all), sure: len(spelled(all[:sure]))}
			l.Crash(keep)
			w.crash(keep)
			check(t, "P1501", "a crash", &l, w.all())
		}
	}
}

func TestP1501WhatIsLeftIsSure(t *testing.T) {
	for keep := range 14 {
		var l Log
		put(t, &l, "a")
		l.Sure()
		put(t, &l, "bb", "", "cccc")
		l.Crash(keep)
		left := l.All()
		for _, again := range []int{0, -1, 1, 2, math.MinInt, math.MaxInt} {
			l.Crash(again)
			check(t, "P1501", "a crash behind a crash", &l, left)
		}
		put(t, &l, "new", "er")
		l.Crash(6)
		check(t, "P1501", "the new one's bytes are counted from what is left on", &l, append(left, []byte("new")))
		put(t, &l, "gone")
		l.Crash(0)
		check(t, "P1501", "what was written behind a crash is not sure", &l, append(left, []byte("new")))
	}
}

func TestP1501NoBytesOfALostPieceStay(t *testing.T) {
	for keep := range 7 {
		var l Log
		put(t, &l, "lost!")
		l.Crash(keep)
		check(t, "P1501", "a piece that is not whole", &l, nil)
		put(t, &l, "", "x")
		check(t, "P1501", "others behind it", &l, pieces("", "x"))
	}
}

func TestP1501SureAgainAndAgain(t *testing.T) {
	var l Log
	var want [][]byte
	for i := range 30 {
		b := long(i % 7)
		l.Append(b)
		want = append(want, b)
		if i%3 == 0 {
			l.Sure()
			l.Sure()
		} else {
			l.Crash(2 + len(b))
		}
		l.Crash(0)
		check(t, "P1501", "all sure", &l, want)
		l.Append([]byte("never sure"))
		l.Crash(11)
		check(t, "P1501", "one not sure", &l, want)
	}
}

func TestP1501SureDoesNotReachAhead(t *testing.T) {
	var l Log
	put(t, &l, "a")
	l.Sure()
	put(t, &l, "b")
	l.Crash(0)
	check(t, "P1501", "written behind Sure", &l, pieces("a"))
	l.Sure()
	put(t, &l, "c")
	check(t, "P1501", "not sure, but there", &l, pieces("a", "c"))
	l.Crash(-1)
	check(t, "P1501", "written behind Sure again", &l, pieces("a"))
}

// steps are what a log may be told, each with what that is in the twin's words.
var steps = []struct {
	real func(l *Log)
	word func(w *twin)
}{
	{func(l *Log) { l.Append(nil) }, func(w *twin) { w.append(nil) }},
	{func(l *Log) { l.Append([]byte{7}) }, func(w *twin) { w.append([]byte{7}) }},
	{func(l *Log) { l.Append([]byte{0, 1, 2}) }, func(w *twin) { w.append([]byte{0, 1, 2}) }},
	{func(l *Log) { l.Append(make([]byte, 1<<16)) }, func(w *twin) {}},
	{func(l *Log) { l.Sure() }, func(w *twin) { w.sure = len(w.written) }},
	{func(l *Log) { l.Crash(0) }, func(w *twin) { w.crash(0) }},
	{func(l *Log) { l.Crash(4) }, func(w *twin) { w.crash(4) }},
	{func(l *Log) { l.Crash(math.MaxInt) }, func(w *twin) { w.crash(math.MaxInt) }},
}

func TestP1501EveryRowOfCalls(t *testing.T) {
	const length = 5
	rows := 1
	for range length {
		rows *= len(steps)
	}
	for row := range rows {
		asked, unasked, w := &Log{}, &Log{}, &twin{}
		for n, i := row, 0; i < length; n, i = n/len(steps), i+1 {
			step := steps[n%len(steps)]
			step.real(asked)
			step.real(unasked)
			step.word(w)
			if !samePieces(asked.All(), w.all()) || asked.Len() != len(w.written) {
				t.Fatalf("P1501: row %d, behind %d calls: %q, Len %d, not %q", row, i+1, begun(asked.All()), asked.Len(), begun(w.all()))
			}
		}
		if !samePieces(unasked.All(), w.all()) || unasked.Len() != len(w.written) {
			t.Fatalf("P1501: row %d, asked at its end alone: %q, Len %d, not %q", row, begun(unasked.All()), unasked.Len(), begun(w.all()))
		}
	}
}

// tell tells a log and its twin one thing that is drawn.
func tell(c *chance, l *Log, w *twin) {
	switch c.below(12) {
	case 0, 1, 2, 3, 4, 5:
		b := c.bytes([]int{0, 1, c.below(5), c.below(40), c.below(600)}[c.below(5)])
		l.Append(b)
		w.append(b)
	case 6, 7:
		l.Sure()
		w.sure = len(w.written)
	case 8, 9, 10:
		keep := []int{c.below(60) - 5, c.below(1 + len(w.written)), math.MinInt, math.MaxInt, 0, len(w.written) - w.sure - 1}[c.below(6)]
		l.Crash(keep)
		w.crash(keep)
	case 11:
		l.Append(make([]byte, 1<<16+c.below(9)))
	}
}

func TestP1501DrawnRowsOfCalls(t *testing.T) {
	c := chance(1501)
	for range 1500 {
		var l Log
		var w twin
		for range 1 + c.below(60) {
			tell(&c, &l, &w)
			if c.below(3) > 0 {
				continue
			}
			if !samePieces(l.All(), w.all()) || l.Len() != len(w.written) {
				t.Fatalf("P1501: drawn calls: %q, Len %d, not %q", begun(l.All()), l.Len(), begun(w.all()))
			}
		}
		check(t, "P1501", "drawn calls", &l, w.all())
	}
}

func TestP1501ManyPieces(t *testing.T) {
	const many = 300000
	var l Log
	for i := range many {
		l.Append([]byte{byte(i), byte(i >> 8), byte(i >> 16)})
		if i == many/2 {
			l.Sure()
		}
	}
	if l.Len() != 5*many || len(l.All()) != many {
		t.Errorf("P1501: of %d pieces there are %d, Len %d", many, len(l.All()), l.Len())
	}
	l.Crash(5*1000 + 4)
	all := l.All()
	if len(all) != many/2+1+1000 || l.Len() != 5*len(all) {
		t.Fatalf("P1501: of %d pieces a crash left %d, Len %d", many, len(all), l.Len())
	}
	for i, b := range all {
		if !bytes.Equal(b, []byte{byte(i), byte(i >> 8), byte(i >> 16)}) {
			t.Fatalf("P1501: of many the piece %d is %v", i, b)
		}
	}
}

func TestP1501ManyCrashes(t *testing.T) {
	var l Log
	for i := range 100000 {
		l.Append([]byte("kept"))
		l.Append([]byte("lost"))
		l.Crash(6 + i%6)
	}
	if l.Len() != 600000 {
		t.Errorf("P1501: behind many crashes Len is %d", l.Len())
	}
}

func TestP1502NilLog(t *testing.T) {
	var l *Log
	for _, b := range [][]byte{nil, {}, {1, 2}, make([]byte, 65535), make([]byte, 65536)} {
		if err := l.Append(b); err != api.ErrArg {
			t.Errorf("P1502: Append of %d bytes to a nil log is %d", len(b), err)
		}
	}
	l.Sure()
	for _, keep := range keeps(3) {
		l.Crash(keep)
	}
	if all := l.All(); len(all) != 0 {
		t.Errorf("P1502: All of a nil log is %q", begun(all))
	}
	if l.Len() != 0 {
		t.Errorf("P1502: Len of a nil log is %d", l.Len())
	}
}

func TestP1502NilAndEmptyAreTheSame(t *testing.T) {
	var a, b Log
	if x, y := a.Append(nil), b.Append([]byte{}); x != y {
		t.Errorf("P1502: Append of nil is %d, of an empty list %d", x, y)
	}
	if a.Len() != b.Len() || !samePieces(a.All(), b.All()) {
		t.Errorf("P1502: behind Append of nil there are %d bytes, of an empty list %d", a.Len(), b.Len())
	}
}

func TestP1502HandedInStays(t *testing.T) {
	for _, n := range []int{0, 1, 2, 3, 255, 65535, 65536} {
		room := append(long(n), 71, 72, 73, 74, 75, 76)
		was := bytes.Clone(room)
		var l Log
		l.Append(room[:n])
		l.Append(room[:n])
		l.Sure()
		l.Append(room[:n])
		l.All()
		l.Crash(3)
		if !bytes.Equal(room, was) {
			t.Errorf("P1502: a piece of %d bytes that was handed in is turned, or its spare room", n)
		}
	}
}

func TestP1502HandedInIsNotKept(t *testing.T) {
	var l Log
	var want [][]byte
	b := make([]byte, 4, 40)
	for i := range 20 {
		b = b[:4+i]
		for j := range b {
			b[j] = byte(i*7 + j)
		}
		want = append(want, bytes.Clone(b))
		l.Append(b)
		clear(b[:cap(b)])
		check(t, "P1502", "what was handed in is turned", &l, want)
	}
	l.Sure()
	l.Append(b)
	b[0] = 99
	l.Crash(0)
	check(t, "P1502", "what was handed in is turned, behind a crash", &l, want)
}

// spoil changes all that was answered, the spare room too.
func spoil(all [][]byte) {
	for i, b := range all {
		b = b[:cap(b)]
		for j := range b {
			b[j] ^= 0x5a
		}
		all[i] = append(b, 1, 2, 3)
	}
	all = all[:cap(all)]
	for i := range all {
		all[i] = []byte("spoilt")
	}
}

func TestP1502AnsweredMayBeChanged(t *testing.T) {
	var l Log
	want := pieces("a", "", "bbb", "cc", "", "dddddddddd")
	put(t, &l, texts(want[:3])...)
	l.Sure()
	put(t, &l, texts(want[3:])...)
	kept := l.All()
	spoil(l.All())
	check(t, "P1502", "an answer is changed", &l, want)
	if !samePieces(kept, want) {
		t.Errorf("P1502: changing an answer changed another one to %q", begun(kept))
	}
	spoil(l.All())
	l.Crash(5)
	spoil(kept)
	check(t, "P1502", "an answer is changed, behind a crash", &l, want[:4])
	spoil(l.All())
	put(t, &l, "e")
	check(t, "P1502", "an answer is changed, one more", &l, append(want[:4:4], []byte("e")))
}

func TestP1502PiecesOfOneAnswerShareNothing(t *testing.T) {
	want := pieces("a", "", "bbb", "cc", "", "same", "same")
	var l Log
	put(t, &l, texts(want)...)
	for i := range want {
		all := l.All()
		b := append(all[i][:cap(all[i])], 9, 9, 9, 9, 9, 9)
		for j := range b {
			b[j] = 77
		}
		for j := range all[i] {
			all[i][j] = 77
		}
		for other := range all {
			if other != i && !bytes.Equal(all[other], want[other]) {
				t.Errorf("P1502: changing piece %d of an answer changed piece %d of it to %q", i, other, all[other])
			}
		}
	}
}

func TestP1502AnswersStay(t *testing.T) {
	var l Log
	put(t, &l, "a", "b")
	l.Sure()
	put(t, &l, "lost", "gone")
	before := l.All()
	l.Crash(0)
	behind := l.All()
	put(t, &l, "LOST", "GONE", "more")
	l.Sure()
	l.Crash(0)
	if !samePieces(before, pieces("a", "b", "lost", "gone")) || !samePieces(behind, pieces("a", "b")) {
		t.Errorf("P1502: what was answered ahead is %q, and %q", begun(before), begun(behind))
	}
	check(t, "P1502", "written behind a crash", &l, pieces("a", "b", "LOST", "GONE", "more"))
}

func TestP1502TwoHaveNothingInCommon(t *testing.T) {
	c := chance(1502)
	for range 300 {
		var logs [3]Log
		var twins [3]twin
		for range 40 {
			i := c.below(3)
			tell(&c, &logs[i], &twins[i])
			for other := range logs {
				if !samePieces(logs[other].All(), twins[other].all()) || logs[other].Len() != len(twins[other].written) {
					t.Fatalf("P1502: telling log %d something turned log %d to %q", i, other, begun(logs[other].All()))
				}
			}
		}
	}
}

func TestP1502OneOfTheOthersAnswers(t *testing.T) {
	var a, b Log
	put(t, &a, "x", "", "yy")
	for _, p := range a.All() {
		b.Append(p)
	}
	a.Crash(0)
	put(t, &a, "turned")
	check(t, "P1502", "what another one answered", &b, pieces("x", "", "yy"))
	b.Crash(3)
	check(t, "P1502", "the one that answered", &a, pieces("turned"))
}

func TestP1502CopiedLogsGoTheirOwnWays(t *testing.T) {
	c := chance(42)
	for range 300 {
		var first Log
		var firstTwin twin
		for range c.below(12) {
			tell(&c, &first, &firstTwin)
		}
		second, secondTwin := first, twin{slices.Clone(firstTwin.written), firstTwin.sure}
		for range 25 {
			if c.below(2) == 0 {
				tell(&c, &first, &firstTwin)
			} else {
				tell(&c, &second, &secondTwin)
			}
			check(t, "P1502", "a log that was copied", &first, firstTwin.all())
			check(t, "P1502", "a copy of a log", &second, secondTwin.all())
		}
		if t.Failed() {
			return
		}
	}
}

// row tells a new log many things that hang on start alone, and answers all that it answered.
func row(start int) ([]api.Errno, []byte) {
	c := chance(start)
	var l Log
	var errs []api.Errno
	var told []byte
	for range 50 {
		switch c.below(4) {
		case 0, 1:
			errs = append(errs, l.Append(c.bytes([]int{c.below(20), c.below(20), 1 << 16}[c.below(3)])))
		case 2:
			l.Sure()
		case 3:
			l.Crash(c.below(50) - 5)
		}
		told = append(told, byte(l.Len()), byte(l.Len()>>8))
		told = append(told, spelled(l.All())...)
	}
	return errs, told
}

func TestP1502SameCallsSameAnswers(t *testing.T) {
	for start := range 40 {
		errs, told := row(start)
		row(start + 1)
		var other Log
		other.Append([]byte("another one"))
		other.Crash(1)
		againErrs, againTold := row(start)
		if !slices.Equal(errs, againErrs) || !bytes.Equal(told, againTold) {
			t.Errorf("P1502: the same calls are answered in another way, of start %d", start)
		}
	}
}

func TestP1502ToldAtOnce(t *testing.T) {
	var all sync.WaitGroup
	for start := range 8 {
		_, want := row(start)
		all.Go(func() {
			for range 20 {
				if _, got := row(start); !bytes.Equal(got, want) {
					t.Errorf("P1502: beside other logs the calls of start %d are answered in another way", start)
				}
			}
		})
	}
	all.Wait()
}
