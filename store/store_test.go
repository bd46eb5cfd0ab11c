package store

import (
	"bytes"
	"fmt"
	"math"
	"slices"
	"sort"
	"sync"
	"testing"

	"fountain/api"
	"fountain/log"
)

// The log's methods are the store's.
var _ interface {
	Append([]byte) api.Errno
	Sure()
	Crash(int)
	All() [][]byte
	Len() int
} = (*Store)(nil)

// piece is what stands in a log, and the record that it spells, if it spells one.
type piece struct {
	text []byte
	of   *api.Record
}

// twin is a store kept by the chapter's words alone: what it has stands in the order in which it came, and is looked for one by one.
type twin struct {
	most    int
	symbols []api.Record
	tombs   []api.Record
	pieces  []piece
	sure    int // how many pieces
}

func newTwin(most int) *twin {
	if most < 0 {
		most = 0
	}
	if most > 1000 {
		most = 1000
	}
	return &twin{most: most}
}

// right is what chapter 14 says of records that can be.
func right(r api.Record) bool {
	const top = math.MaxInt32
	if r.Id.Peer < 0 || r.Id.Peer > top || r.Id.Number < 1 || r.Id.Number > top || r.Until < 0 || r.Until > top {
		return false
	}
	s := r.Shape
	if r.Gone {
		return s.Bytes == 0 && s.Size == 0 && s.Most == 0 && r.Block == 0 && r.Esi == 0 && len(r.Data) == 0
	}
	if s.Bytes < 1 || s.Bytes > 4000 || s.Size < 1 || s.Size > 64 || s.Most < 1 || s.Most > 40 {
		return false
	}
	symbols := (s.Bytes + s.Size - 1) / s.Size
	blocks := (symbols + s.Most - 1) / s.Most
	return r.Block >= 0 && r.Block < blocks && r.Esi >= 0 && r.Esi < 1<<24 && len(r.Data) == s.Size
}

// spelled is the record as chapter 14 writes it.
func spelled(r api.Record) []byte {
	var b []byte
	number := func(n, width int) {
		for i := width - 1; i >= 0; i-- {
			b = append(b, byte(n>>(8*i)))
		}
	}
	gone := 0
	if r.Gone {
		gone = 1
	}
	number(gone, 1)
	number(r.Id.Peer, 4)
	number(r.Id.Number, 4)
	number(r.Until, 4)
	if r.Gone {
		return b
	}
	number(r.Shape.Bytes, 2)
	number(r.Shape.Size, 2)
	number(r.Shape.Most, 2)
	number(r.Block, 2)
	number(r.Esi, 3)
	return append(b, r.Data...)
}

func (w *twin) append(text []byte, of *api.Record) {
	w.pieces = append(w.pieces, piece{text, of})
}

func (w *twin) write(r api.Record) {
	w.append(spelled(r), &r)
}

func (w *twin) put(l ...api.Record) api.Errno {
	for _, r := range l {
		if e := w.one(r, w.write); e != api.OK {
			return e
		}
	}
	return api.OK
}

// one puts r, and tells of what turned something.
func (w *twin) one(r api.Record, tell func(api.Record)) api.Errno {
	if !right(r) {
		return api.ErrArg
	}
	r = copied(r)
	if r.Gone {
		var left []api.Record
		for _, o := range w.symbols {
			if o.Id != r.Id {
				left = append(left, o)
			}
		}
		w.symbols = left
		for i := range w.tombs {
			if w.tombs[i].Id == r.Id {
				if r.Until > w.tombs[i].Until {
					w.tombs[i].Until = r.Until
					tell(r)
				}
				return api.OK
			}
		}
		w.tombs = append(w.tombs, r)
		tell(r)
		return api.OK
	}
	if w.gone(r.Id) {
		return api.OK
	}
	for i := range w.symbols {
		o := &w.symbols[i]
		if o.Id == r.Id && o.Block == r.Block && o.Esi == r.Esi {
			if r.Until > o.Until {
				o.Until = r.Until
				tell(copied(*o))
			}
			return api.OK
		}
	}
	if len(w.symbols) >= w.most {
		all := w.sorted()
		sort.SliceStable(all, func(i, j int) bool { return all[i].Until < all[j].Until })
		if len(all) == 0 || all[0].Until >= r.Until {
			return api.ErrFull
		}
		w.symbols = slices.DeleteFunc(w.symbols, func(o api.Record) bool { return place(o) == place(all[0]) })
	}
	w.symbols = append(w.symbols, r)
	tell(copied(r))
	return api.OK
}

// place is the numbers by which symbols are in order.
func place(r api.Record) [4]int {
	return [4]int{r.Id.Peer, r.Id.Number, r.Block, r.Esi}
}

// sorted are the symbols in order.
func (w *twin) sorted() []api.Record {
	all := slices.Clone(w.symbols)
	sort.Slice(all, func(i, j int) bool {
		a, b := place(all[i]), place(all[j])
		for k := range a {
			if a[k] != b[k] {
				return a[k] < b[k]
			}
		}
		return false
	})
	return all
}

func (w *twin) gone(id api.Id) bool {
	for _, r := range w.tombs {
		if r.Id == id {
			return true
		}
	}
	return false
}

func (w *twin) expire(now int) int {
	n := 0
	for _, l := range []*[]api.Record{&w.symbols, &w.tombs} {
		var left []api.Record
		for _, r := range *l {
			if r.Until < now {
				n++
			} else {
				left = append(left, r)
			}
		}
		*l = left
	}
	return n
}

func (w *twin) crash(keep int) {
	left, at := w.pieces[:w.sure], w.sure
	for at < len(w.pieces) && 2+len(w.pieces[at].text) <= keep {
		keep -= 2 + len(w.pieces[at].text)
		at++
		left = w.pieces[:at]
	}
	w.pieces = left
	w.sure = len(left)
}

func (w *twin) restart(keep int) {
	w.crash(keep)
	w.symbols, w.tombs = nil, nil
	for _, p := range w.pieces {
		if p.of != nil {
			w.one(*p.of, func(api.Record) {})
		}
	}
}

func copied(r api.Record) api.Record {
	r.Data = slices.Clone(r.Data)
	return r
}

func copiedAll(l []api.Record) []api.Record {
	var all []api.Record
	for _, r := range l {
		all = append(all, copied(r))
	}
	return all
}

func same(a, b api.Record) bool {
	return a.Id == b.Id && a.Shape == b.Shape && a.Block == b.Block && a.Esi == b.Esi && a.Gone == b.Gone && a.Until == b.Until && bytes.Equal(a.Data, b.Data)
}

// held are all symbols of a store, as Ids and Get tell them.
func held(s *Store) []api.Record {
	var all []api.Record
	for _, id := range s.Ids() {
		all = append(all, s.Get(id)...)
	}
	return all
}

// texts are the log's pieces.
func (w *twin) texts() [][]byte {
	var all [][]byte
	for _, p := range w.pieces {
		all = append(all, p.text)
	}
	return all
}

// some are Ids of which a store is asked, whatever it has.
var some = []api.Id{{}, {Peer: -1, Number: 1}, {Peer: 0, Number: -1}, {Peer: 0, Number: 1}, {Peer: 0, Number: 2}, {Peer: 1, Number: 1}, {Peer: 1, Number: 2}, {Peer: 1, Number: 3}, {Peer: 2, Number: 1}, {Peer: math.MinInt, Number: math.MaxInt}}

// check asks the store all that can be asked, and tells whether it is as its twin.
func check(t *testing.T, promise, when string, s *Store, w *twin) bool {
	t.Helper()
	ok := true
	fault := func(what string, got, want any) {
		t.Helper()
		ok = false
		t.Errorf("%s: %s: %s is %v, not %v", promise, when, what, got, want)
	}
	want := w.sorted()
	var ids []api.Id
	for _, r := range want {
		if len(ids) == 0 || ids[len(ids)-1] != r.Id {
			ids = append(ids, r.Id)
		}
	}
	if got := s.Ids(); !slices.Equal(got, ids) {
		fault("Ids", got, ids)
	}
	if got := held(s); !slices.EqualFunc(got, want, same) {
		fault("what is held", got, want)
	}
	if got := s.Count(); got != len(want) {
		fault("Count", got, len(want))
	}
	for _, id := range some {
		if got := s.Gone(id); got != w.gone(id) {
			fault(fmt.Sprint("Gone of ", id), got, w.gone(id))
		}
		if !slices.Contains(ids, id) && len(s.Get(id)) != 0 {
			fault(fmt.Sprint("Get of ", id), s.Get(id), "nothing")
		}
	}
	n := 0
	for _, p := range w.pieces {
		n += 2 + len(p.text)
	}
	if got := s.All(); !slices.EqualFunc(got, w.texts(), bytes.Equal) || s.Len() != n {
		fault("the log", fmt.Sprintf("%x of %d bytes", got, s.Len()), fmt.Sprintf("%x of %d", w.texts(), n))
	}
	return ok
}

var small = api.Shape{Bytes: 6, Size: 2, Most: 2}

func symbol(peer, number, block, esi, until int, data ...byte) api.Record {
	full := make([]byte, small.Size)
	copy(full, data)
	return api.Record{Id: api.Id{Peer: peer, Number: number}, Shape: small, Block: block, Esi: esi, Until: until, Data: full}
}

func tombstone(peer, number, until int) api.Record {
	return api.Record{Id: api.Id{Peer: peer, Number: number}, Gone: true, Until: until}
}

// both are a store and its twin, which are told the same.
type both struct {
	t       *testing.T
	promise string
	s       *Store
	w       *twin
}

func newBoth(t *testing.T, promise string, most int) *both {
	return &both{t, promise, New(most), newTwin(most)}
}

// put Puts these, and holds what is answered and what is kept then against what is asked.
func (b *both) put(when string, want api.Errno, l ...api.Record) {
	b.t.Helper()
	if got := b.s.Put(copiedAll(l)...); got != want {
		b.t.Errorf("%s: %s: Put is %d, not %d", b.promise, when, got, want)
	}
	if got := b.w.put(l...); got != want {
		b.t.Errorf("%s: %s: the test itself is wrong: %d, not %d", b.promise, when, got, want)
	}
	check(b.t, b.promise, when, b.s, b.w)
}

func (b *both) expire(when string, now, want int) {
	b.t.Helper()
	if got := b.s.Expire(now); got != want {
		b.t.Errorf("%s: %s: Expire(%d) is %d, not %d", b.promise, when, now, got, want)
	}
	if got := b.w.expire(now); got != want {
		b.t.Errorf("%s: %s: the test itself is wrong: %d, not %d", b.promise, when, got, want)
	}
	check(b.t, b.promise, when, b.s, b.w)
}

func (b *both) append(text []byte, of *api.Record) {
	b.t.Helper()
	if got := b.s.Append(slices.Clone(text)); got != api.OK {
		b.t.Errorf("%s: Append is %d", b.promise, got)
	}
	b.w.append(text, of)
}

func (b *both) sure() {
	b.s.Sure()
	b.w.sure = len(b.w.pieces)
}

func (b *both) restart(when string, keep int) {
	b.t.Helper()
	b.s.Restart(keep)
	b.w.restart(keep)
	check(b.t, b.promise, when, b.s, b.w)
}

// holds asks for just these symbols, as they are written here.
func (b *both) holds(when string, want ...api.Record) {
	b.t.Helper()
	if got := held(b.s); !slices.EqualFunc(got, want, same) || b.s.Count() != len(want) {
		b.t.Errorf("%s: %s: %v are held, %d by Count, not %v", b.promise, when, got, b.s.Count(), want)
	}
}

// logged asks for just so many pieces, the last of them the bytes of this record.
func (b *both) logged(when string, n int, last api.Record) {
	b.t.Helper()
	if got := b.s.All(); len(got) != n || n > 0 && !bytes.Equal(got[n-1], spelled(last)) {
		b.t.Errorf("%s: %s: the log is %x, not %d pieces, the last %x", b.promise, when, got, n, spelled(last))
	}
}

// chance makes numbers.
type chance uint32

func (c *chance) below(n int) int {
	*c = *c*1664525 + 1013904223
	return int(*c>>9) % n
}

func (c *chance) bytes(n int) []byte {
	b := make([]byte, n)
	for i := range b {
		b[i] = byte(c.below(256))
	}
	return b
}

func TestP1601Example(t *testing.T) {
	for _, most := range []int{math.MinInt, -1, 0, 1, 3, 1000, 1001, math.MaxInt} {
		if n := New(most).Count(); n != 0 {
			t.Errorf("P1601: Count of a new one of %d is %d", most, n)
		}
		check(t, "P1601", "a new one", New(most), newTwin(most))
	}
}

func TestP1601HandWorked(t *testing.T) {
	b := newBoth(t, "P1601", 10)
	b.put("none", api.OK)
	b.logged("none", 0, api.Record{})
	b.put("several", api.OK, symbol(3, 1, 1, 2, 7, 1, 2), symbol(2, 9, 0, 0, 5, 3, 4), symbol(3, 1, 0, 8, 6, 5, 6))
	b.holds("several", symbol(2, 9, 0, 0, 5, 3, 4), symbol(3, 1, 0, 8, 6, 5, 6), symbol(3, 1, 1, 2, 7, 1, 2))
	want := [][]byte{
		{0, 0, 0, 0, 3, 0, 0, 0, 1, 0, 0, 0, 7, 0, 6, 0, 2, 0, 2, 0, 1, 0, 0, 2, 1, 2},
		{0, 0, 0, 0, 2, 0, 0, 0, 9, 0, 0, 0, 5, 0, 6, 0, 2, 0, 2, 0, 0, 0, 0, 0, 3, 4},
		{0, 0, 0, 0, 3, 0, 0, 0, 1, 0, 0, 0, 6, 0, 6, 0, 2, 0, 2, 0, 0, 0, 0, 8, 5, 6},
	}
	if got := b.s.All(); !slices.EqualFunc(got, want, bytes.Equal) || b.s.Len() != 84 {
		t.Errorf("P1601: the log is %x, %d bytes", got, b.s.Len())
	}
	if ids := b.s.Ids(); !slices.Equal(ids, []api.Id{{Peer: 2, Number: 9}, {Peer: 3, Number: 1}}) {
		t.Errorf("P1601: Ids are %v", ids)
	}
	b.put("a tombstone", api.OK, tombstone(3, 1, 4))
	b.holds("a tombstone", symbol(2, 9, 0, 0, 5, 3, 4))
	if got := b.s.All(); len(got) != 4 || !bytes.Equal(got[3], []byte{1, 0, 0, 0, 3, 0, 0, 0, 1, 0, 0, 0, 4}) || b.s.Len() != 99 {
		t.Errorf("P1601: the log is %x, %d bytes", got, b.s.Len())
	}
	if !b.s.Gone(api.Id{Peer: 3, Number: 1}) || b.s.Gone(api.Id{Peer: 2, Number: 9}) || b.s.Gone(api.Id{Peer: 1, Number: 3}) {
		t.Error("P1601: Gone after a tombstone of {3, 1}")
	}
}

func TestP1601Most(t *testing.T) {
	for most, want := range map[int]int{math.MinInt: 0, -1000: 0, -1: 0, 0: 0, 1: 1, 2: 2, 7: 7, 999: 999, 1000: 1000, 1001: 1000, 5000: 1000, math.MaxInt: 1000} {
		s := New(most)
		for i := range 1003 {
			err := api.OK
			if i >= want {
				err = api.ErrFull
			}
			if got := s.Put(symbol(1, 1, 0, i, 5)); got != err {
				t.Fatalf("P1601: New(%d): Put of the symbol %d is %d, not %d", most, i, got, err)
			}
		}
		if s.Count() != want || len(s.Get(api.Id{Peer: 1, Number: 1})) != want || len(s.All()) != want {
			t.Errorf("P1601: New(%d): %d symbols, %d got, %d pieces, not %d", most, s.Count(), len(s.Get(api.Id{Peer: 1, Number: 1})), len(s.All()), want)
		}
		if got := s.Put(symbol(1, 1, 0, 2000, 6)); (got == api.OK) != (want > 0) || s.Count() != want {
			t.Errorf("P1601: New(%d): Put of a later one is %d, %d symbols", most, got, s.Count())
		}
		for i := range 1100 {
			if got := s.Put(tombstone(2, 1+i, 0)); got != api.OK {
				t.Fatalf("P1601: New(%d): Put of the tombstone %d is %d", most, i, got)
			}
		}
		if s.Count() != want || !s.Gone(api.Id{Peer: 2, Number: 1100}) {
			t.Errorf("P1601: New(%d): %d symbols behind 1100 tombstones", most, s.Count())
		}
		if n := s.Expire(1); n != 1100 {
			t.Errorf("P1601: New(%d): Expire of 1100 tombstones is %d", most, n)
		}
	}
}

func TestP1601TakenPlace(t *testing.T) {
	old := symbol(4, 2, 1, 3, 50, 1, 2)
	for _, most := range []int{1, 2} {
		for _, until := range []int{0, 49, 50, 51, math.MaxInt32} {
			for _, shape := range []api.Shape{small, {Bytes: 4000, Size: 2, Most: 40}, {Bytes: 5, Size: 3, Most: 1}, {Bytes: 400, Size: 64, Most: 2}} {
				b := newBoth(t, "P1601", most)
				b.put("the first", api.OK, old)
				again := old
				again.Until, again.Shape, again.Data = until, shape, bytes.Repeat([]byte{9}, shape.Size)
				when := fmt.Sprint("a taken place, until ", until, ", shape ", shape)
				b.put(when, api.OK, again)
				kept, n := old, 1
				if until > 50 {
					kept.Until, n = until, 2
				}
				b.holds(when, kept)
				b.logged(when, n, kept)
			}
		}
	}
}

func TestP1601PlacesOfTheirOwn(t *testing.T) {
	l := []api.Record{symbol(4, 2, 1, 3, 50, 1), symbol(5, 2, 1, 3, 50, 2), symbol(4, 3, 1, 3, 50, 3), symbol(4, 2, 0, 3, 50, 4), symbol(4, 2, 1, 4, 50, 5), symbol(4, 2, 0, 4, 50, 6), symbol(2, 4, 1, 3, 50, 7), symbol(4, 2, 1, api.MaxEsi-1, 50, 8)}
	b := newBoth(t, "P1601", len(l))
	b.put("eight places", api.OK, l...)
	b.holds("eight places", l[6], l[3], l[5], l[0], l[4], l[7], l[2], l[1])
	b.logged("eight places", 8, l[7])
	b.put("the same again", api.OK, l...)
	b.logged("the same again", 8, l[7])
}

func TestP1601Tombstones(t *testing.T) {
	// an Id with symbols, one with none
	b := newBoth(t, "P1601", 9)
	a, c := symbol(1, 1, 0, 1, 90), symbol(1, 1, 1, 1, 10)
	other, near := symbol(1, 2, 0, 1, 10), symbol(2, 1, 0, 1, 10)
	b.put("symbols", api.OK, a, other, c, near)
	b.put("a tombstone of an Id with symbols", api.OK, tombstone(1, 1, 20))
	b.holds("a tombstone of an Id with symbols", other, near)
	b.put("a tombstone of an Id with none", api.OK, tombstone(7, 7, 0))
	b.logged("a tombstone of an Id with none", 6, tombstone(7, 7, 0))
	// symbols of what is gone
	b.put("symbols of what is gone", api.OK, a, symbol(1, 1, 0, 2, 999), symbol(7, 7, 0, 0, 3), symbol(2, 2, 0, 0, 1))
	b.holds("symbols of what is gone", other, near, symbol(2, 2, 0, 0, 1))
	b.logged("symbols of what is gone", 7, symbol(2, 2, 0, 0, 1))
	// one that is there already
	b.put("a tombstone with a lesser Until", api.OK, tombstone(1, 1, 19), tombstone(1, 1, 0))
	b.put("a tombstone with the same Until", api.OK, tombstone(1, 1, 20))
	b.logged("a tombstone that turns nothing", 7, symbol(2, 2, 0, 0, 1))
	b.put("a tombstone with a greater Until", api.OK, tombstone(1, 1, 21))
	b.logged("a tombstone with a greater Until", 8, tombstone(1, 1, 21))
	b.expire("just at its Until", 21, 4)
	b.put("still gone", api.OK, a)
	b.holds("still gone")
	b.expire("one more", 22, 1)
	b.put("forgotten", api.OK, a)
	b.holds("forgotten", a)
	b.put("gone once more, with a lesser Until", api.OK, tombstone(1, 1, 3))
	b.holds("gone once more, with a lesser Until")
	b.logged("gone once more, with a lesser Until", 10, tombstone(1, 1, 3))
	// a lesser one did not bring the Until down
	c2 := newBoth(t, "P1601", 9)
	c2.put("two", api.OK, tombstone(1, 1, 30), tombstone(1, 1, 10))
	c2.expire("between the two", 20, 0)
	if !c2.s.Gone(api.Id{Peer: 1, Number: 1}) {
		t.Error("P1601: a tombstone with a lesser Until brought the Until down")
	}
	// a tombstone makes room
	d := newBoth(t, "P1601", 2)
	d.put("full", api.OK, a, other)
	d.put("no room", api.ErrFull, symbol(3, 3, 0, 0, 10))
	d.put("room", api.OK, tombstone(1, 1, 0), symbol(3, 3, 0, 0, 10))
	d.holds("room", other, symbol(3, 3, 0, 0, 10))
}

func TestP1601Full(t *testing.T) {
	x, y, z := symbol(1, 2, 1, 1, 30), symbol(2, 1, 0, 0, 20), symbol(1, 2, 0, 9, 40)
	for _, c := range []struct {
		until int
		want  api.Errno
	}{{0, api.ErrFull}, {19, api.ErrFull}, {20, api.ErrFull}, {21, api.OK}, {30, api.OK}, {math.MaxInt32, api.OK}} {
		b := newBoth(t, "P1601", 3)
		b.put("three", api.OK, x, y, z)
		n := symbol(0, 1, 0, 0, c.until, 7)
		when := fmt.Sprint("full, until ", c.until)
		b.put(when, c.want, n)
		if c.want == api.OK {
			b.holds(when, n, z, x)
			b.logged(when, 4, n)
		} else {
			b.holds(when, z, x, y)
			b.logged(when, 3, z)
		}
	}
	// those behind one that finds no room are not looked at, those ahead stay
	b := newBoth(t, "P1601", 3)
	b.put("no room among others", api.ErrFull, x, y, z, symbol(5, 5, 0, 0, 25), symbol(5, 5, 0, 1, 20), symbol(5, 5, 0, 2, 99), tombstone(1, 2, 9), api.Record{})
	b.holds("no room among others", z, x, symbol(5, 5, 0, 0, 25))
	b.logged("no room among others", 4, symbol(5, 5, 0, 0, 25))
	// what needs no room
	b.put("no room is needed", api.OK, symbol(1, 2, 1, 1, 31), symbol(1, 2, 1, 1, 0), tombstone(6, 6, 1), symbol(6, 6, 0, 0, 0))
	b.put("what is wrong is so ahead of no room", api.ErrArg, symbol(5, 5, 0, -1, 0))
	// the place that an Until was raised of is looked at with that
	c := newBoth(t, "P1601", 2)
	c.put("two", api.OK, symbol(1, 1, 0, 0, 5), symbol(1, 1, 0, 1, 6))
	c.put("raised", api.OK, symbol(1, 1, 0, 0, 8), symbol(1, 1, 0, 2, 7))
	c.holds("raised", symbol(1, 1, 0, 0, 8), symbol(1, 1, 0, 2, 7))
}

func TestP1601OfSeveralTheFirstGoes(t *testing.T) {
	l := []api.Record{symbol(0, 9, 1, 9, 5), symbol(1, 1, 0, 7, 5), symbol(1, 1, 1, 2, 5), symbol(1, 1, 1, 3, 5), symbol(1, 2, 0, 0, 5), symbol(2, 1, 0, 0, 5)}
	for turn := range l {
		in := append(slices.Clone(l[turn:]), l[:turn]...)
		b := newBoth(t, "P1601", len(l))
		b.put("as many as may be", api.OK, in...)
		for i := range l {
			b.put("one more", api.OK, symbol(3, 1, 0, i, 6))
			left := slices.Clone(l[i+1:])
			for j := range i + 1 {
				left = append(left, symbol(3, 1, 0, j, 6))
			}
			b.holds("the first goes", left...)
		}
		b.put("none is below", api.ErrFull, symbol(0, 1, 0, 0, 6))
		slices.Reverse(in)
		c := newBoth(t, "P1601", len(l))
		c.put("as many as may be", api.OK, in...)
		c.put("one ahead of all", api.OK, symbol(0, 1, 0, 0, 6))
		c.holds("the first goes", append([]api.Record{symbol(0, 1, 0, 0, 6)}, l[1:]...)...)
	}
}

func TestP1601TheFullestOne(t *testing.T) {
	b := newBoth(t, "P1601", math.MaxInt)
	c := chance(16)
	var all []api.Record
	for i := range 1000 {
		all = append(all, symbol(i%3, 1+i%5, i%2, c.below(api.MaxEsi/1000)*1000+i, 100+c.below(400), byte(i)))
	}
	b.put("a thousand", api.OK, all...)
	for range 300 {
		r := symbol(c.below(3), 1+c.below(7), c.below(2), c.below(api.MaxEsi), 50+c.below(300))
		if got, want := b.s.Put(r), b.w.put(r); got != want {
			t.Fatalf("P1601: Put of %v into a full one is %d, not %d", r, got, want)
		}
	}
	check(t, "P1601", "a thousand, turned", b.s, b.w)
	b.restart("begun anew", 1<<20)
	if b.s.Count() != 1000 {
		t.Errorf("P1602: %d symbols of a thousand", b.s.Count())
	}
}

func TestP1601Order(t *testing.T) {
	var all []api.Record
	for _, peer := range []int{0, 1, 255, 256, math.MaxInt32} {
		for _, number := range []int{1, 2, 256, math.MaxInt32} {
			for block := range 2 {
				for _, esi := range []int{0, 1, 255, 256, api.MaxEsi - 1} {
					all = append(all, symbol(peer, number, block, esi, 9, byte(len(all))))
				}
			}
		}
	}
	c := chance(1)
	for range 3 {
		in := slices.Clone(all)
		for i := range in {
			j := i + c.below(len(in)-i)
			in[i], in[j] = in[j], in[i]
		}
		b := newBoth(t, "P1601", 1000)
		b.put("in any order", api.OK, in...)
		b.holds("in order", all...)
		if got := b.s.Get(api.Id{Peer: 256, Number: 2}); !slices.EqualFunc(got, all[130:140], same) {
			t.Errorf("P1601: Get of {256, 2} is %v", got)
		}
		if ids := b.s.Ids(); len(ids) != 20 || ids[4] != (api.Id{Peer: 1, Number: 1}) {
			t.Errorf("P1601: Ids are %v", ids)
		}
	}
}

func TestP1601Expire(t *testing.T) {
	l := []api.Record{symbol(1, 1, 0, 0, 0), symbol(1, 1, 0, 1, 20), symbol(1, 1, 1, 0, 21), symbol(2, 1, 0, 0, 19), symbol(3, 1, 0, 0, math.MaxInt32), tombstone(4, 1, 20), tombstone(4, 2, 0), tombstone(4, 3, math.MaxInt32), tombstone(1, 2, 19), tombstone(1, 3, 21)}
	for now, want := range map[int]int{math.MinInt: 0, -1: 0, 0: 0, 1: 2, 19: 2, 20: 4, 21: 6, 22: 8, math.MaxInt32: 8, math.MaxInt32 + 1: 10, math.MaxInt: 10} {
		b := newBoth(t, "P1601", 20)
		b.put("all", api.OK, l...)
		b.expire("the first time", now, want)
		b.expire("the second time", now, 0)
		b.logged("the log stays", 10, l[9])
	}
	// what has gone may come again, and is logged again
	b := newBoth(t, "P1601", 1)
	a := symbol(1, 1, 0, 0, 5, 1)
	b.put("one", api.OK, a, tombstone(2, 2, 5))
	b.expire("at its Until", 5, 0)
	b.expire("one more", 6, 2)
	b.holds("none is left")
	again := symbol(1, 1, 0, 0, 4, 2)
	b.put("again", api.OK, again, tombstone(2, 2, 4))
	b.holds("with other Data and a lesser Until", again)
	b.logged("again", 4, tombstone(2, 2, 4))
	if n := New(3).Expire(9); n != 0 {
		t.Errorf("P1601: Expire of an empty one is %d", n)
	}
}

// wrong are records that are not right.
func wrong() []api.Record {
	good, gone := symbol(1, 1, 1, 3, 9), tombstone(1, 1, 9)
	turned := func(from api.Record, turn func(r *api.Record)) api.Record {
		r := copied(from)
		turn(&r)
		return r
	}
	all := []api.Record{{}, {Gone: true}}
	for _, from := range []api.Record{good, gone} {
		for _, n := range []int{math.MinInt, -1, math.MaxInt32 + 1, math.MaxInt} {
			all = append(all, turned(from, func(r *api.Record) { r.Id.Peer = n }), turned(from, func(r *api.Record) { r.Id.Number = n }), turned(from, func(r *api.Record) { r.Until = n }))
		}
		all = append(all, turned(from, func(r *api.Record) { r.Id.Number = 0 }), turned(from, func(r *api.Record) { r.Gone = !r.Gone }))
	}
	for _, n := range []int{math.MinInt, -1, 2, math.MaxInt} {
		all = append(all, turned(good, func(r *api.Record) { r.Block = n }))
	}
	for _, n := range []int{math.MinInt, -1, api.MaxEsi, math.MaxInt} {
		all = append(all, turned(good, func(r *api.Record) { r.Esi = n }))
	}
	for _, n := range []int{0, 1, 3} {
		all = append(all, turned(good, func(r *api.Record) { r.Data = make([]byte, n) }))
	}
	for _, n := range []int{math.MinInt, -1, 0, 4001, math.MaxInt} {
		all = append(all, turned(good, func(r *api.Record) { r.Shape.Bytes = n }), turned(good, func(r *api.Record) { r.Shape.Size = n }), turned(good, func(r *api.Record) { r.Shape.Most = n }))
	}
	return append(all, turned(gone, func(r *api.Record) { r.Shape.Most = 1 }), turned(gone, func(r *api.Record) { r.Block = 1 }), turned(gone, func(r *api.Record) { r.Esi = 1 }), turned(gone, func(r *api.Record) { r.Data = []byte{0} }))
}

func TestP1601WrongRecords(t *testing.T) {
	for _, r := range wrong() {
		when := fmt.Sprint("wrong ", r)
		b := newBoth(t, "P1601", 4)
		b.put(when, api.ErrArg, r)
		ahead := []api.Record{symbol(1, 1, 0, 0, 5), symbol(2, 2, 1, 1, 6)}
		b.put(when+" among others", api.ErrArg, ahead[0], ahead[1], r, symbol(3, 3, 0, 0, 7), tombstone(1, 1, 8), r)
		b.holds(when+" among others", ahead...)
		b.logged(when+" among others", 2, ahead[1])
		b.put(when+" behind a tombstone", api.ErrArg, tombstone(r.Id.Peer, 1, 8), r)
		b.put(when+" ahead of others", api.ErrArg, r, symbol(3, 3, 0, 0, 7))
	}
}

// calls are the kinds of which all short rows are made; most is 2.
var calls = []struct {
	name string
	do   func(b *both)
}{
	{"a", func(b *both) { b.told(symbol(0, 1, 0, 1, 3, 1)) }},
	{"a later", func(b *both) { b.told(symbol(0, 1, 0, 1, 5, 2)) }},
	{"b, c", func(b *both) { b.told(symbol(0, 1, 0, 0, 4, 3), symbol(1, 1, 1, 0, 4, 4)) }},
	{"tombstone", func(b *both) { b.told(tombstone(0, 1, 4)) }},
	{"tombstone later, c", func(b *both) { b.told(tombstone(0, 1, 6), symbol(1, 1, 1, 0, 6, 5)) }},
	{"wrong among two", func(b *both) { b.told(symbol(1, 2, 0, 0, 5), api.Record{}, symbol(2, 1, 0, 0, 9)) }},
	{"Expire", func(b *both) { b.expired(5) }},
	{"Sure", func(b *both) { b.sure() }},
	{"Restart", func(b *both) { b.s.Restart(40); b.w.restart(40) }},
}

func (b *both) told(l ...api.Record) {
	if got, want := b.s.Put(copiedAll(l)...), b.w.put(l...); got != want {
		b.t.Errorf("%s: Put of %v is %d, not %d", b.promise, l, got, want)
	}
}

func (b *both) expired(now int) {
	if got, want := b.s.Expire(now), b.w.expire(now); got != want {
		b.t.Errorf("%s: Expire(%d) is %d, not %d", b.promise, now, got, want)
	}
}

func TestP1601AllShortRows(t *testing.T) {
	const long = 4
	row := make([]int, 0, long)
	var walk func() bool
	walk = func() bool {
		b := newBoth(t, "P1601", 2)
		when := ""
		for _, i := range row {
			calls[i].do(b)
			when += calls[i].name + "; "
		}
		if !check(t, "P1601", when, b.s, b.w) || t.Failed() {
			return false
		}
		for i := range calls {
			if len(row) == long {
				break
			}
			row = append(row, i)
			if !walk() {
				return false
			}
			row = row[:len(row)-1]
		}
		return true
	}
	walk()
}

// drawn is a record of few places, seldom a wrong one.
func drawn(c *chance) api.Record {
	id := some[c.below(6)+3]
	if c.below(9) == 0 {
		return tombstone(id.Peer, id.Number, c.below(30))
	}
	r := symbol(id.Peer, id.Number, c.below(2), c.below(3), c.below(30), c.bytes(2)...)
	switch c.below(30) {
	case 0:
		r.Block = 2
	case 1:
		r.Shape = api.Shape{Bytes: 4, Size: 1, Most: 2}
		r.Data = c.bytes(1)
	case 2:
		r.Shape = api.Shape{Bytes: 300, Size: 64, Most: 3}
		r.Data = c.bytes(64)
	}
	return r
}

// drawnRow is a row of calls, drawn from this number; what is answered is told as a text.
func drawnRow(t *testing.T, from uint32, most int) string {
	c := chance(from)
	b := newBoth(t, "P1601", most)
	told := ""
	for i := range 40 {
		when := fmt.Sprintf("row %d, call %d", from, i)
		switch c.below(12) {
		case 0:
			now := c.below(25)
			got := b.s.Expire(now)
			if want := b.w.expire(now); got != want {
				t.Errorf("P1601: %s: Expire(%d) is %d, not %d", when, now, got, want)
			}
			told += fmt.Sprint(" ", got)
		case 1:
			b.sure()
		case 2:
			keep := c.below(200) - 10
			b.s.Restart(keep)
			b.w.restart(keep)
		case 3:
			keep := c.below(200) - 10
			b.s.Crash(keep)
			b.w.crash(keep)
		case 4:
			r := drawn(&c)
			if text := spelled(r); right(r) {
				b.append(text, &r)
				b.append(text[:c.below(len(text))], nil)
			}
		default:
			var l []api.Record
			for range c.below(5) {
				l = append(l, drawn(&c))
			}
			got := b.s.Put(copiedAll(l)...)
			if want := b.w.put(l...); got != want {
				t.Errorf("P1601: %s: Put of %v is %d, not %d", when, l, got, want)
			}
			told += fmt.Sprint(" ", got)
		}
		if !check(t, "P1601", when, b.s, b.w) || t.Failed() {
			t.FailNow()
		}
	}
	return told + fmt.Sprint(held(b.s), b.s.All())
}

func TestP1601DrawnRows(t *testing.T) {
	for i := range 400 {
		drawnRow(t, uint32(i), i%8)
	}
}

func TestP1602Restart(t *testing.T) {
	a, c, d := symbol(1, 1, 0, 0, 10, 1), symbol(1, 1, 0, 1, 20, 2), symbol(1, 1, 0, 2, 30, 3)
	const long = 28 // what a symbol of two bytes has in the log
	for _, x := range []struct {
		keep int
		want []api.Record
	}{
		{math.MinInt, []api.Record{a}}, {-1, []api.Record{a}}, {0, []api.Record{a}}, {1, []api.Record{a}}, {long - 1, []api.Record{a}},
		{long, []api.Record{a, c}}, {long + 1, []api.Record{a, c}}, {2*long - 1, []api.Record{a, c}},
		{2 * long, []api.Record{a, c, d}}, {2*long + 14, []api.Record{a, c, d}}, {2*long + 15, nil}, {2*long + 16, nil}, {math.MaxInt, nil},
	} {
		b := newBoth(t, "P1602", 5)
		b.put("one", api.OK, a)
		b.sure()
		b.put("three more", api.OK, c, d, tombstone(1, 1, 7))
		when := fmt.Sprint("Restart, keep ", x.keep)
		b.restart(when, x.keep)
		b.holds(when, x.want...)
		if got := b.s.Gone(a.Id); got != (x.want == nil) {
			t.Errorf("P1602: %s: Gone is %v", when, got)
		}
		pieces := len(x.want)
		if x.want == nil {
			pieces = 4
		}
		if len(b.s.All()) != pieces {
			t.Errorf("P1602: %s: the log is %x", when, b.s.All())
		}
		// what is left is sure
		b.restart(when+", and once more", 0)
		b.holds(when+", and once more", x.want...)
	}
}

func TestP1602WithoutSure(t *testing.T) {
	b := newBoth(t, "P1602", 5)
	a, c := symbol(1, 1, 0, 0, 10, 1), symbol(1, 1, 0, 1, 20, 2)
	b.put("two", api.OK, a, c)
	b.restart("the first stays", 28)
	b.holds("the first stays", a)
	b.put("another", api.OK, tombstone(1, 1, 5))
	b.restart("what was left is sure", -5)
	b.holds("what was left is sure", a)
	d := newBoth(t, "P1602", 5)
	d.put("two", api.OK, a, tombstone(2, 2, 2))
	d.restart("all is lost", 0)
	d.holds("all is lost")
	d.put("from the beginning", api.OK, c, symbol(2, 2, 0, 0, 1))
	d.holds("from the beginning", c, symbol(2, 2, 0, 0, 1))
	e := New(3)
	e.Restart(math.MaxInt)
	check(t, "P1602", "an empty one", e, newTwin(3))
}

func TestP1602AsItIsPutAgain(t *testing.T) {
	b := newBoth(t, "P1602", 2)
	a, c, d := symbol(1, 1, 0, 0, 10, 1), symbol(1, 1, 0, 1, 20, 2), symbol(1, 2, 0, 0, 15, 3)
	// one that had to go goes again; a raised Until is raised again
	b.put("three", api.OK, a, c, d)
	later := d
	later.Until, later.Data, later.Shape = 18, []byte{8, 8}, api.Shape{Bytes: 2, Size: 2, Most: 1}
	b.put("raised", api.OK, later)
	b.sure()
	b.restart("put again", 0)
	raised := d
	raised.Until = 18
	b.holds("put again", c, raised)
	b.logged("nothing is Appended", 4, raised)
	// what had expired is there again
	b.expire("too old", 19, 1)
	b.holds("too old", c)
	b.restart("there again", 0)
	b.holds("there again", c, raised)
	// most is kept
	b.put("as many as before", api.ErrFull, symbol(9, 9, 0, 0, 18))
	// an Expire makes room that there is not behind a Restart
	x := newBoth(t, "P1602", 1)
	x.put("one", api.OK, symbol(1, 1, 0, 0, 9))
	x.expire("it goes", 10, 1)
	x.put("one with a lesser Until", api.OK, symbol(1, 1, 0, 1, 8))
	x.sure()
	x.restart("no room for the second", 0)
	x.holds("no room for the second", symbol(1, 1, 0, 0, 9))
	// a tombstone that was forgotten is there again, and so are not the symbols behind it
	y := newBoth(t, "P1602", 3)
	y.put("gone", api.OK, tombstone(1, 1, 4))
	y.expire("forgotten", 5, 1)
	y.put("a symbol", api.OK, a)
	y.holds("a symbol", a)
	y.sure()
	y.restart("gone again", 0)
	y.holds("gone again")
	y.logged("the log stays", 2, a)
}

func TestP1602PiecesThatAreNoRecords(t *testing.T) {
	b := newBoth(t, "P1602", 3)
	a, c := symbol(1, 1, 0, 0, 10, 1), symbol(1, 1, 0, 1, 20, 2)
	b.append(nil, nil)
	b.append([]byte("none"), nil)
	b.put("among others", api.OK, a)
	b.append(spelled(a)[:25], nil)
	b.append(append(spelled(c), 0), nil)
	b.append(append([]byte{2}, spelled(c)[1:]...), nil)
	b.append(append(spelled(tombstone(1, 1, 1)), 1), nil)
	b.append(make([]byte, 65535), nil)
	b.append(spelled(c), &c)
	check(t, "P1602", "Append keeps nothing", b.s, b.w)
	b.holds("Append keeps nothing", a)
	b.sure()
	b.restart("what is Read is put", 0)
	b.holds("what is Read is put", a, c)
	for _, r := range wrong() {
		b.append(spelled(r), nil)
		if right(r) {
			t.Fatalf("P1602: the test itself is wrong: %v", r)
		}
	}
}

func TestP1602ErrorsArePassedOver(t *testing.T) {
	b := newBoth(t, "P1602", 1)
	l := []api.Record{symbol(3, 3, 0, 0, 9), symbol(3, 3, 0, 1, 9), symbol(3, 3, 0, 2, 3), symbol(3, 3, 0, 0, 11), tombstone(4, 4, 1), symbol(4, 4, 0, 0, 99), symbol(3, 3, 0, 3, 12, 7)}
	for i := range l {
		b.append(spelled(l[i]), &l[i])
	}
	for keep := range 8 * 28 {
		x := newBoth(t, "P1602", 1)
		for i := range l {
			x.append(spelled(l[i]), &l[i])
		}
		x.restart(fmt.Sprint("errors on the way, keep ", keep), keep)
	}
	b.sure()
	b.restart("errors on the way", 0)
	b.holds("errors on the way", symbol(3, 3, 0, 3, 12, 7))
	if !b.s.Gone(api.Id{Peer: 4, Number: 4}) || len(b.s.All()) != 7 {
		t.Error("P1602: what is behind an error is put")
	}
	none := newBoth(t, "P1602", 0)
	none.append(spelled(l[0]), &l[0])
	none.append(spelled(l[4]), &l[4])
	none.restart("no symbols at all", math.MaxInt)
	if none.s.Count() != 0 || !none.s.Gone(api.Id{Peer: 4, Number: 4}) {
		t.Error("P1602: of a store of 0 symbols only the tombstones are put again")
	}
}

func TestP1602TheLogIsTheStores(t *testing.T) {
	s := New(2)
	var _ log.Log = s.Log
	s.Put(symbol(1, 1, 0, 0, 3), tombstone(2, 2, 2))
	if s.Len() != s.Log.Len() || s.Len() != 28+15 || len(s.Log.All()) != 2 {
		t.Errorf("P1602: Len is %d, of the Log within %d", s.Len(), s.Log.Len())
	}
	s.Sure()
	s.Append([]byte{1, 2, 3})
	if s.Log.Len() != 48 {
		t.Errorf("P1602: Append turned the Log within to %d", s.Log.Len())
	}
	s.Crash(4)
	if s.Len() != 43 || s.Count() != 1 || !s.Gone(api.Id{Peer: 2, Number: 2}) {
		t.Errorf("P1602: Crash of the log alone: %d bytes, %d symbols", s.Len(), s.Count())
	}
	if e := s.Append(make([]byte, 65536)); e != api.ErrLong {
		t.Errorf("P1602: Append of too much is %d", e)
	}
	s.Crash(math.MaxInt)
	s.Restart(0)
	if s.Len() != 43 || s.Count() != 1 {
		t.Errorf("P1602: Restart: %d bytes, %d symbols", s.Len(), s.Count())
	}
}

func TestP1603Nil(t *testing.T) {
	var s *Store
	id := api.Id{Peer: 1, Number: 1}
	for _, l := range [][]api.Record{nil, {}, {symbol(1, 1, 0, 0, 5)}, {tombstone(1, 1, 5)}, {{}}} {
		if e := s.Put(l...); e != api.ErrArg {
			t.Errorf("P1603: Put of a nil one is %d", e)
		}
	}
	s.Restart(0)
	s.Restart(math.MaxInt)
	if len(s.Get(id)) != 0 || s.Gone(id) || len(s.Ids()) != 0 || s.Expire(math.MaxInt) != 0 || s.Count() != 0 {
		t.Error("P1603: a nil one has something")
	}
}

// Nothing panics, so neither does one that New did not make; it has no room for symbols.
func TestP1603ZeroValue(t *testing.T) {
	var s Store
	w := newTwin(0)
	for range 2 {
		if e := s.Put(symbol(2, 1, 0, 0, 5)); e != api.ErrFull {
			t.Errorf("P1603: Put of the zero value is %d", e)
		}
		if e := s.Put(tombstone(1, 1, 5)); e != api.OK {
			t.Errorf("P1603: Put of a tombstone is %d", e)
		}
		w.put(tombstone(1, 1, 5))
		s.Sure()
		s.Restart(0)
		w.sure = len(w.pieces)
		w.restart(0)
		check(t, "P1603", "the zero value", &s, w)
	}
}

func TestP1603TwoHaveNothingInCommon(t *testing.T) {
	x, y := newBoth(t, "P1603", 3), newBoth(t, "P1603", 3)
	x.put("the first", api.OK, symbol(1, 1, 0, 0, 5), tombstone(2, 2, 6))
	check(t, "P1603", "the second", y.s, y.w)
	y.put("the second", api.OK, symbol(2, 2, 0, 0, 7), symbol(1, 1, 0, 0, 9, 4))
	y.sure()
	check(t, "P1603", "the first", x.s, x.w)
	x.restart("the first", 0)
	check(t, "P1603", "the second", y.s, y.w)
	y.put("the second", api.OK, tombstone(1, 1, 3))
	y.expire("the second", 4, 1)
	check(t, "P1603", "the first", x.s, x.w)
	// what one answers, handed in to the other
	y.put("of the first", api.OK, symbol(5, 5, 1, 1, 8, 3, 3))
	z := New(3)
	z.Put(y.s.Get(api.Id{Peer: 5, Number: 5})...)
	for _, r := range z.Get(api.Id{Peer: 5, Number: 5}) {
		r.Data[0] = 77
	}
	y.s.Restart(0)
	y.w.restart(0)
	if got := held(z); len(got) != 1 || !same(got[0], symbol(5, 5, 1, 1, 8, 3, 3)) {
		t.Errorf("P1603: what was handed on is %v", got)
	}
	check(t, "P1603", "the second", y.s, y.w)
}

func TestP1603HandedInStays(t *testing.T) {
	room := []byte{1, 2, 3, 4, 5, 6}
	l := make([]api.Record, 2, 4)
	l[0], l[1] = symbol(1, 1, 0, 0, 5), symbol(1, 1, 0, 1, 6)
	l[0].Data, l[1].Data = room[0:2], room[3:5]
	spare := l[:4]
	spare[2], spare[3] = tombstone(8, 8, 8), symbol(9, 9, 0, 0, 9)
	b := newBoth(t, "P1603", 3)
	for range 2 {
		if e := b.s.Put(l...); e != api.OK {
			t.Errorf("P1603: Put is %d", e)
		}
		b.w.put(l...)
		later := symbol(1, 1, 0, 0, 50)
		b.s.Put(later)
		b.w.put(later)
		b.s.Expire(3)
		b.s.Restart(math.MaxInt)
		b.w.restart(math.MaxInt)
	}
	if !slices.Equal(room, []byte{1, 2, 3, 4, 5, 6}) || l[0].Until != 5 || !same(spare[2], tombstone(8, 8, 8)) || !same(spare[3], symbol(9, 9, 0, 0, 9)) {
		t.Errorf("P1603: what was handed in is %v, %v", spare, room)
	}
	check(t, "P1603", "what was handed in", b.s, b.w)
	// nor is it kept: neither behind a Restart, nor without one
	other := newBoth(t, "P1603", 3)
	if e := other.s.Put(l...); e != api.OK {
		t.Errorf("P1603: Put is %d", e)
	}
	other.w.put(l...)
	for i := range room {
		room[i] = 99
	}
	for i := range spare {
		spare[i] = api.Record{}
	}
	check(t, "P1603", "what was handed in is turned", b.s, b.w)
	check(t, "P1603", "what was handed in is turned", other.s, other.w)
	text := []byte{4, 5, 6}
	b.s.Append(text)
	b.w.append([]byte{4, 5, 6}, nil)
	text[0] = 9
	check(t, "P1603", "what was Appended is turned", b.s, b.w)
	b.restart("anew", math.MaxInt)
}

func TestP1603AnswersMayBeChanged(t *testing.T) {
	b := newBoth(t, "P1603", 4)
	b.put("four", api.OK, symbol(1, 1, 0, 0, 5, 1), symbol(1, 1, 0, 1, 6, 2), symbol(1, 2, 0, 0, 7, 3), symbol(2, 1, 0, 0, 8, 4), tombstone(3, 3, 9))
	id := api.Id{Peer: 1, Number: 1}
	ruin := func(when string) {
		t.Helper()
		first, second := b.s.Get(id), b.s.Get(id)
		for i := range first {
			data := first[i].Data[:cap(first[i].Data)]
			for j := range data {
				data[j] = 99
			}
			first[i].Until = 1
		}
		if !same(second[0], b.w.sorted()[0]) || !same(second[1], b.w.sorted()[1]) {
			t.Errorf("P1603: %s: two answers of Get share something: %v", when, second)
		}
		whole := first[:cap(first)]
		for i := range whole {
			whole[i] = api.Record{}
		}
		ids, others := b.s.Ids(), b.s.Ids()
		all := ids[:cap(ids)]
		for i := range all {
			all[i] = api.Id{Peer: 9, Number: 9}
		}
		if !slices.Equal(others, []api.Id{{Peer: 1, Number: 1}, {Peer: 1, Number: 2}, {Peer: 2, Number: 1}}) {
			t.Errorf("P1603: %s: two answers of Ids share something: %v", when, others)
		}
		for _, p := range b.s.All() {
			for i := range p {
				p[i] = 99
			}
		}
		check(t, "P1603", when, b.s, b.w)
	}
	ruin("what was answered is turned")
	// the Data of one answer are each their own
	got := b.s.Get(id)
	got[0].Data = append(got[0].Data[:1], 66, 66, 66)
	if !same(got[1], symbol(1, 1, 0, 1, 6, 2)) {
		t.Errorf("P1603: what is appended to one's Data turns another: %v", got[1])
	}
	b.restart("anew", math.MaxInt)
	ruin("what was answered behind a Restart is turned")
	b.restart("anew once more", math.MaxInt)
	// nor are answers turned by what the store is told later
	before := b.s.Get(id)
	b.s.Put(symbol(1, 1, 0, 0, 500), tombstone(1, 1, 3))
	if len(before) != 2 || !same(before[0], symbol(1, 1, 0, 0, 5, 1)) || !same(before[1], symbol(1, 1, 0, 1, 6, 2)) {
		t.Errorf("P1603: an answer was turned: %v", before)
	}
}

func TestP1603SameCallsSameAnswers(t *testing.T) {
	var first []string
	for i := range 20 {
		first = append(first, drawnRow(t, uint32(1000+i), 1+i%5))
	}
	for i := 19; i >= 0; i-- {
		drawnRow(t, uint32(2000+i), 3)
		if got := drawnRow(t, uint32(1000+i), 1+i%5); got != first[i] {
			t.Errorf("P1603: row %d is answered %s, and %s before", i, got, first[i])
		}
	}
	// asking turns nothing
	b := newBoth(t, "P1603", 3)
	b.put("some", api.OK, symbol(1, 1, 0, 0, 5), symbol(1, 1, 1, 0, 5), tombstone(2, 1, 5))
	for range 3 {
		b.s.Get(api.Id{Peer: 7, Number: 7})
		b.s.Gone(api.Id{Peer: 7, Number: 7})
		b.s.Ids()
		check(t, "P1603", "asked", b.s, b.w)
	}
	b.restart("asking is not logged", 28)
}

func TestP1603AtOnce(t *testing.T) {
	want := drawnRow(t, 77, 4)
	var group sync.WaitGroup
	got := make([]string, 8)
	for i := range got {
		group.Go(func() { got[i] = rowAlone(77, 4) })
	}
	group.Wait()
	for i := range got {
		if got[i] != got[0] {
			t.Errorf("P1603: at once, the row is answered %s, and %s", got[i], got[0])
		}
	}
	if again := drawnRow(t, 77, 4); again != want {
		t.Errorf("P1603: behind that, the row is answered %s, and %s before", again, want)
	}
}

// rowAlone is a row of calls of a store without a twin.
func rowAlone(from uint32, most int) string {
	c := chance(from)
	s := New(most)
	told := ""
	for range 300 {
		told += fmt.Sprint(s.Put(drawn(&c), drawn(&c)), s.Count(), s.Ids(), " ")
		switch c.below(20) {
		case 0:
			s.Restart(c.below(300))
		case 1:
			told += fmt.Sprint(s.Expire(c.below(20)))
		case 2:
			s.Sure()
		}
	}
	return told + fmt.Sprint(held(s), s.All())
}
