package letter

import (
	"bytes"
	"encoding/hex"
	"math"
	"slices"
	"strings"
	"sync"
	"testing"

	"fountain/api"
)

// most is the greatest number of a peer, a tag, an object, a tick.
const most = 1<<31 - 1

// head is how many bytes there are ahead of how many Peers there are.
const head = 21

// bytesOf are the bytes that these digits, with blanks among them, spell.
func bytesOf(digits string) []byte {
	b, err := hex.DecodeString(strings.ReplaceAll(digits, " ", ""))
	if err != nil {
		panic(err)
	}
	return b
}

// symbol is a right record of 26 bytes.
func symbol() api.Record {
	return api.Record{Id: api.Id{Peer: 2, Number: 3}, Shape: api.Shape{Bytes: 5, Size: 2, Most: 2}, Block: 1, Esi: 0x010203, Until: 77, Data: []byte{9, 8}}
}

// tombstone is a right record of 13 bytes.
func tombstone() api.Record {
	return api.Record{Id: api.Id{Peer: 2, Number: 3}, Gone: true, Until: 7}
}

// greatestRecord is one of as many bytes as there are, 88, and of the greatest numbers.
func greatestRecord() api.Record {
	return api.Record{Id: api.Id{Peer: most, Number: most}, Shape: api.Shape{Bytes: 4000, Size: 64, Most: 1}, Block: 62, Esi: 1<<24 - 1, Until: most, Data: bytes.Repeat([]byte{0xa5}, 64)}
}

// What the records above are as bytes, by hand.
const (
	symbolText    = "00 00000002 00000003 0000004d 0005 0002 0002 0001 010203 0908"
	tombstoneText = "01 00000002 00000003 00000007"
)

// zeroText is From, To, Tag and Id, each number 0.
const zeroText = " 00000000 00000000 00000000 00000000 00000000 "

// ofKnown is a letter, and the bytes that it is.
type ofKnown struct {
	l    api.Letter
	text string
}

// known are letters, and the bytes that they are, written out by hand.
func known() []ofKnown {
	return []ofKnown{
		{api.Letter{Kind: api.LFind}, "01" + zeroText + "00 00"},
		{api.Letter{Kind: api.LTell}, "02" + zeroText + "00 00"},
		{api.Letter{Kind: api.LStore}, "03" + zeroText + "00 00"},
		{api.Letter{Kind: api.LFind, From: 1, To: 2, Tag: 3, Id: api.Id{Peer: 4, Number: 5}}, "01 00000001 00000002 00000003 00000004 00000005 00 00"},
		{api.Letter{Kind: api.LFind, From: 0x01020304, To: 0x05060708, Tag: 0x090a0b0c, Id: api.Id{Peer: 0x0d0e0f10, Number: 0x11121314}}, "01 01020304 05060708 090a0b0c 0d0e0f10 11121314 00 00"},
		{api.Letter{Kind: api.LStore, From: most, To: most, Tag: most, Id: api.Id{Peer: most, Number: most}}, "03 7fffffff 7fffffff 7fffffff 7fffffff 7fffffff 00 00"},
		{api.Letter{Kind: api.LTell, From: 7, To: 9, Tag: 256, Peers: []int{6}}, "02 00000007 00000009 00000100 00000000 00000000 01 00000006 00"},
		{api.Letter{Kind: api.LTell, Peers: []int{most, 0, 65536, 255, 255, 0x01020304}}, "02" + zeroText + "06 7fffffff 00000000 00010000 000000ff 000000ff 01020304 00"},
		{api.Letter{Kind: api.LStore, From: 1, Records: []api.Record{tombstone()}}, "03 00000001 00000000 00000000 00000000 00000000 00 01 000d" + tombstoneText},
		{api.Letter{Kind: api.LStore, Records: []api.Record{symbol()}}, "03" + zeroText + "00 01 001a" + symbolText},
		{api.Letter{Kind: api.LFind, Records: []api.Record{symbol(), tombstone(), symbol()}}, "01" + zeroText + "00 03 001a" + symbolText + "000d" + tombstoneText + "001a" + symbolText},
		{api.Letter{Kind: api.LTell, From: 1, To: 2, Tag: 3, Id: api.Id{Peer: 2, Number: 3}, Peers: []int{5, 4}, Records: []api.Record{tombstone(), symbol()}},
			"02 00000001 00000002 00000003 00000002 00000003 02 00000005 00000004 02 000d" + tombstoneText + "001a" + symbolText},
		{api.Letter{Kind: api.LStore, Records: []api.Record{greatestRecord(), tombstone()}},
			"03" + zeroText + "00 02 0058 00 7fffffff 7fffffff 7fffffff 0fa0 0040 0001 003e ffffff" + strings.Repeat("a5", 64) + "000d" + tombstoneText},
		{api.Letter{Kind: api.LTell, Peers: slices.Repeat([]int{258}, 255)}, "02" + zeroText + "ff" + strings.Repeat("00000102", 255) + "00"},
		{api.Letter{Kind: api.LStore, Records: slices.Repeat([]api.Record{tombstone()}, 255)}, "03" + zeroText + "00 ff" + strings.Repeat("000d"+tombstoneText, 255)},
		{api.Letter{Kind: api.LFind, Peers: slices.Repeat([]int{most}, 255), Records: slices.Repeat([]api.Record{symbol()}, 255)},
			"01" + zeroText + "ff" + strings.Repeat("7fffffff", 255) + "ff" + strings.Repeat("001a"+symbolText, 255)},
	}
}

// small are those of known whose bytes are few.
func small() []ofKnown {
	return slices.DeleteFunc(known(), func(c ofKnown) bool { return len(c.text) > 500 })
}

// plain is a right letter from which others differ.
func plain() api.Letter {
	return api.Letter{Kind: api.LTell, From: 1, To: 2, Tag: 3, Id: api.Id{Peer: 4, Number: 5}, Peers: []int{6, 7, 8}, Records: []api.Record{symbol(), tombstone(), symbol()}}
}

// fields sets one number of a letter each, the Peers' among them.
var fields = []func(l *api.Letter, n int){
	func(l *api.Letter, n int) { l.From = n },
	func(l *api.Letter, n int) { l.To = n },
	func(l *api.Letter, n int) { l.Tag = n },
	func(l *api.Letter, n int) { l.Id.Peer = n },
	func(l *api.Letter, n int) { l.Id.Number = n },
	func(l *api.Letter, n int) { l.Peers[0] = n },
	func(l *api.Letter, n int) { l.Peers[1] = n },
	func(l *api.Letter, n int) { l.Peers[2] = n },
}

func sameRecord(a, b api.Record) bool {
	return a.Id == b.Id && a.Shape == b.Shape && a.Block == b.Block && a.Esi == b.Esi && a.Gone == b.Gone && a.Until == b.Until && bytes.Equal(a.Data, b.Data)
}

func same(a, b api.Letter) bool {
	return a.Kind == b.Kind && a.From == b.From && a.To == b.To && a.Tag == b.Tag && a.Id == b.Id &&
		slices.Equal(a.Peers, b.Peers) && slices.EqualFunc(a.Records, b.Records, sameRecord)
}

// copied is the letter with lists of its own.
func copied(l api.Letter) api.Letter {
	l.Peers, l.Records = slices.Clone(l.Peers), slices.Clone(l.Records)
	for i, r := range l.Records {
		l.Records[i].Data = bytes.Clone(r.Data)
	}
	return l
}

// number is n as so many bytes, by counting: how often 256, 256 times 256 .. go into it.
func number(n, width int) []byte {
	b := make([]byte, width)
	for i := width - 1; i >= 0; i-- {
		b[i] = byte(n % 256)
		n /= 256
	}
	return b
}

// writtenRecord is what chapter 14 says the record is as bytes, right or not, of numbers not below 0.
func writtenRecord(r api.Record) []byte {
	if r.Gone {
		return slices.Concat([]byte{1}, number(r.Id.Peer, 4), number(r.Id.Number, 4), number(r.Until, 4))
	}
	return slices.Concat([]byte{0}, number(r.Id.Peer, 4), number(r.Id.Number, 4), number(r.Until, 4),
		number(r.Shape.Bytes, 2), number(r.Shape.Size, 2), number(r.Shape.Most, 2), number(r.Block, 2), number(r.Esi, 3), r.Data)
}

// written is what the chapter says the letter is as bytes, right or not, of numbers not below 0.
func written(l api.Letter) []byte {
	var pieces [][]byte
	for _, r := range l.Records {
		pieces = append(pieces, writtenRecord(r))
	}
	return framed(l, pieces...)
}

// framed is the letter's bytes, with these in place of its records'.
func framed(l api.Letter, records ...[]byte) []byte {
	b := number(l.Kind, 1)
	for _, n := range []int{l.From, l.To, l.Tag, l.Id.Peer, l.Id.Number} {
		b = append(b, number(n, 4)...)
	}
	b = append(b, number(len(l.Peers), 1)...)
	for _, n := range l.Peers {
		b = append(b, number(n, 4)...)
	}
	b = append(b, number(len(records), 1)...)
	for _, piece := range records {
		b = append(append(b, number(len(piece), 2)...), piece...)
	}
	return b
}

// value is the number that these bytes tell.
func value(b []byte) int {
	n := 0
	for _, x := range b {
		n = n*256 + int(x)
	}
	return n
}

// spelledRecord is the record that the bytes are by chapter 14's words, if they are one.
func spelledRecord(b []byte) (api.Record, bool) {
	if len(b) < 13 || b[0] > 1 {
		return api.Record{}, false
	}
	r := api.Record{Id: api.Id{Peer: value(b[1:5]), Number: value(b[5:9])}, Until: value(b[9:13]), Gone: b[0] == 1}
	if r.Id.Peer > most || r.Id.Number > most || r.Id.Number == 0 || r.Until > most {
		return api.Record{}, false
	}
	if r.Gone {
		return r, len(b) == 13
	}
	if len(b) < 24 {
		return api.Record{}, false
	}
	r.Shape = api.Shape{Bytes: value(b[13:15]), Size: value(b[15:17]), Most: value(b[17:19])}
	r.Block, r.Esi, r.Data = value(b[19:21]), value(b[21:24]), bytes.Clone(b[24:])
	s := r.Shape
	if s.Bytes < 1 || s.Bytes > 4000 || s.Size < 1 || s.Size > 64 || s.Most < 1 || s.Most > 40 {
		return api.Record{}, false
	}
	return r, r.Block*s.Most*s.Size < s.Bytes && len(r.Data) == s.Size
}

// spelled is the letter that the bytes are by the chapter's words, if they are one.
func spelled(b []byte) (api.Letter, bool) {
	none := api.Letter{}
	if len(b) < head+2 || b[0] < 1 || b[0] > 3 {
		return none, false
	}
	l := api.Letter{Kind: int(b[0]), From: value(b[1:5]), To: value(b[5:9]), Tag: value(b[9:13]), Id: api.Id{Peer: value(b[13:17]), Number: value(b[17:21])}}
	peers, rest := int(b[head]), b[head+1:]
	if len(rest) < 4*peers+1 {
		return none, false
	}
	for i := range peers {
		l.Peers = append(l.Peers, value(rest[4*i:4*i+4]))
	}
	for _, n := range append([]int{l.From, l.To, l.Tag, l.Id.Peer, l.Id.Number}, l.Peers...) {
		if n > most {
			return none, false
		}
	}
	records, rest := int(rest[4*peers]), rest[4*peers+1:]
	for range records {
		if len(rest) < 2 || len(rest)-2 < value(rest[:2]) {
			return none, false
		}
		end := 2 + value(rest[:2])
		r, ok := spelledRecord(rest[2:end])
		if !ok {
			return none, false
		}
		l.Records, rest = append(l.Records, r), rest[end:]
	}
	return l, len(rest) == 0
}

// checkRight asks both calls of a letter that can be.
func checkRight(t *testing.T, l api.Letter) {
	t.Helper()
	if b := Bytes(l); !bytes.Equal(b, written(l)) {
		t.Errorf("P2201: Bytes(%v) is %x, not %x", l, b, written(l))
	}
	if got, err := Read(written(l)); err != api.OK || !same(got, l) {
		t.Errorf("P2201: Read(%x) is %v, %d, not %v", written(l), got, err, l)
	}
}

// checkWrong asks Bytes of a letter that can't be.
func checkWrong(t *testing.T, l api.Letter) {
	t.Helper()
	if b := Bytes(l); len(b) != 0 {
		t.Errorf("P2201: Bytes(%v), of a letter that can't be, is %x", l, b)
	}
}

// checkNone asks Read of bytes that no letter is.
func checkNone(t *testing.T, b []byte) {
	t.Helper()
	if l, err := Read(b); err != api.ErrBytes || !same(l, api.Letter{}) {
		t.Errorf("P2201: Read(%x), of no letter, is %v, %d", b, l, err)
	}
}

// checkSpelled asks Read of any bytes, by the chapter's words, and tells whether they are a letter.
func checkSpelled(t *testing.T, b []byte) bool {
	t.Helper()
	l, ok := spelled(b)
	if !ok {
		checkNone(t, b)
		return false
	}
	got, err := Read(b)
	if err != api.OK || !same(got, l) {
		t.Errorf("P2201: Read(%x) is %v, %d, not %v", b, got, err, l)
	}
	if again := Bytes(got); !bytes.Equal(again, b) {
		t.Errorf("P2201: Read(%x) is %v, whose Bytes are %x", b, got, again)
	}
	return true
}

func TestP2201Example(t *testing.T) {
	checkNone(t, nil)
	checkNone(t, []byte{})
}

func TestP2201KnownLettersAreTheseBytes(t *testing.T) {
	for _, c := range known() {
		if b := Bytes(c.l); !bytes.Equal(b, bytesOf(c.text)) {
			t.Errorf("P2201: Bytes(%v) is %x, not %s", c.l, b, c.text)
		}
		if l, err := Read(bytesOf(c.text)); err != api.OK || !same(l, c.l) {
			t.Errorf("P2201: Read(%s) is %v, %d, not %v", c.text, l, err, c.l)
		}
	}
}

func TestP2201KindsFrom1To3(t *testing.T) {
	for _, of := range []api.Letter{{}, plain()} {
		for kind := 1; kind <= 3; kind++ {
			of.Kind = kind
			checkRight(t, of)
		}
		for _, kind := range []int{0, 4, 5, -1, -2, -3, -253, -254, -255, -256, 255, 256, 257, 258, 259, 260, 513, 65537, 1<<32 + 1, -1<<32 + 1, 1<<40 + 2, math.MinInt, math.MinInt + 1, math.MinInt + 2, math.MinInt32 + 1, math.MaxInt} {
			of.Kind = kind
			checkWrong(t, of)
		}
	}
}

func TestP2201KindByteFrom1To3(t *testing.T) {
	for _, c := range small() {
		b := bytesOf(c.text)
		for first := range 256 {
			b[0] = byte(first)
			if is := checkSpelled(t, b); is != (first >= 1 && first <= 3) {
				t.Errorf("P2201: of a first byte %d there are letters: %v", first, is)
			}
		}
	}
}

func TestP2201NumbersAtTheirEnds(t *testing.T) {
	for _, set := range fields {
		for _, n := range []int{0, 1, 127, 128, 255, 256, 65535, 65536, 1<<24 - 1, 1 << 24, 0x01020304, most - 1, most} {
			l := plain()
			set(&l, n)
			checkRight(t, l)
		}
	}
	for _, n := range []int{0, 1, most} {
		l := plain()
		for _, set := range fields {
			set(&l, n)
		}
		checkRight(t, l)
	}
}

func TestP2201NumbersBeyondTheirEnds(t *testing.T) {
	for i, set := range fields {
		for _, n := range []int{-1, -2, 1 << 31, 1<<31 + 1, 1<<32 - 1, 1 << 32, 1<<32 + 1, 1<<40 + 1, -1 << 31, -1<<31 - 1, -1 << 32, -1<<32 + 1, math.MinInt, math.MinInt + 1, math.MaxInt, math.MaxInt - 1} {
			l := plain()
			set(&l, n)
			checkWrong(t, l)
			if i < 5 {
				l.Peers, l.Records = nil, nil
				checkWrong(t, l)
			}
		}
	}
}

func TestP2201NumbersInBytesBeyondTheirEnds(t *testing.T) {
	for i, set := range fields {
		for _, n := range []int{1 << 31, 1<<31 + 1, 1<<32 - 1, 3 << 30} {
			l := plain()
			set(&l, n)
			checkNone(t, written(l))
			if i < 5 {
				l.Peers, l.Records = nil, nil
				checkNone(t, written(l))
			}
		}
	}
}

// repeated are so many records, each with Data of its own.
func repeated(r api.Record, n int) []api.Record {
	all := make([]api.Record, n)
	for i := range all {
		all[i] = r
		all[i].Data = bytes.Clone(r.Data)
	}
	return all
}

func TestP2201AsManyAsThereMayBe(t *testing.T) {
	for _, n := range []int{0, 1, 2, 3, 127, 128, 254, 255} {
		l := api.Letter{Kind: api.LStore, Peers: make([]int, n)}
		for i := range l.Peers {
			l.Peers[i] = 1000 + i
		}
		checkRight(t, l)
		l.Records = repeated(symbol(), n)
		for i := range l.Records {
			l.Records[i].Until = i
		}
		checkRight(t, l)
		l.Peers = nil
		checkRight(t, l)
		l.Records = repeated(tombstone(), n)
		checkRight(t, l)
		l.Records = repeated(greatestRecord(), n)
		checkRight(t, l)
	}
}

func TestP2201MoreThanThereMayBe(t *testing.T) {
	for _, n := range []int{256, 257, 258, 259, 511, 512, 513, 65535, 65536, 65537} {
		checkWrong(t, api.Letter{Kind: api.LTell, Peers: make([]int, n)})
		checkWrong(t, api.Letter{Kind: api.LTell, Records: repeated(tombstone(), n)})
		checkWrong(t, api.Letter{Kind: api.LTell, Records: repeated(symbol(), n)})
		l := plain()
		l.Peers = make([]int, n)
		checkWrong(t, l)
		l = plain()
		l.Records = repeated(tombstone(), n)
		checkWrong(t, l)
	}
}

// spoilt are records that are not right.
func spoilt() []api.Record {
	all := []api.Record{{}, {Gone: true}, {Id: api.Id{Number: 1}}}
	for _, change := range []func(r *api.Record){
		func(r *api.Record) { r.Id.Peer = -1 },
		func(r *api.Record) { r.Id.Peer = most + 1 },
		func(r *api.Record) { r.Id.Number = 0 },
		func(r *api.Record) { r.Id.Number = -1 },
		func(r *api.Record) { r.Id.Number = most + 1 },
		func(r *api.Record) { r.Until = -1 },
		func(r *api.Record) { r.Until = most + 1 },
		func(r *api.Record) { r.Shape.Bytes += api.MaxObject },
		func(r *api.Record) { r.Shape.Size++ },
		func(r *api.Record) { r.Shape.Most += api.MaxK },
		func(r *api.Record) { r.Block += 2 },
		func(r *api.Record) { r.Block = -1 },
		func(r *api.Record) { r.Esi += api.MaxEsi },
		func(r *api.Record) { r.Esi = -1 },
		func(r *api.Record) { r.Data = append(r.Data, 1) },
		func(r *api.Record) { r.Data = make([]byte, 1<<16) },
	} {
		for _, r := range []api.Record{symbol(), tombstone()} {
			change(&r)
			all = append(all, r)
		}
	}
	short, both := symbol(), symbol()
	short.Data, both.Gone = short.Data[:1], true
	return append(all, short, both)
}

func TestP2201RecordsThatAreNotRight(t *testing.T) {
	for _, r := range spoilt() {
		l := plain()
		l.Records = []api.Record{r}
		checkWrong(t, l)
		for at := range 4 {
			l = plain()
			l.Records = slices.Insert(l.Records, at, r)
			checkWrong(t, l)
		}
		for _, at := range []int{0, 100, 254} {
			l.Records = repeated(symbol(), 255)
			l.Records[at] = r
			checkWrong(t, l)
		}
	}
}

func TestP2201BytesOfNoRecord(t *testing.T) {
	right, gone := writtenRecord(symbol()), writtenRecord(tombstone())
	noShape, noBlock, noNumber, greatUntil := symbol(), symbol(), tombstone(), tombstone()
	noShape.Shape.Most, noBlock.Block, noNumber.Id.Number, greatUntil.Until = 0, 2, 0, most+1
	for _, piece := range [][]byte{
		nil, {0}, {1}, make([]byte, 13), make([]byte, 24), make([]byte, 26), bytes.Repeat([]byte{255}, 26), make([]byte, 300), make([]byte, 1<<16-1),
		right[:25], right[1:], append(bytes.Clone(right), 0), append([]byte{2}, right[1:]...), append([]byte{1}, right[1:]...),
		gone[:12], gone[1:], append(bytes.Clone(gone), 0), append([]byte{255}, gone[1:]...), append([]byte{0}, gone[1:]...),
		slices.Concat(gone, gone), slices.Concat(right, right), slices.Concat(number(13, 2), gone),
		writtenRecord(noShape), writtenRecord(noBlock), writtenRecord(noNumber), writtenRecord(greatUntil),
	} {
		for _, l := range []api.Letter{{Kind: api.LStore}, plain()} {
			checkNone(t, framed(l, piece))
			checkNone(t, framed(l, piece, right))
			checkNone(t, framed(l, right, piece))
			checkNone(t, framed(l, gone, piece, right))
			checkNone(t, framed(l, slices.Repeat([][]byte{piece}, 255)...))
		}
	}
}

func TestP2201NilAndEmptyListsAlike(t *testing.T) {
	empty := api.Letter{Kind: api.LTell, Peers: []int{}, Records: []api.Record{}}
	if b := Bytes(empty); !bytes.Equal(b, Bytes(api.Letter{Kind: api.LTell})) {
		t.Errorf("P2201: of empty lists Bytes is %x", b)
	}
	checkRight(t, empty)
	checkWrong(t, api.Letter{})
	checkWrong(t, api.Letter{Peers: []int{}, Records: []api.Record{}})
	gone := tombstone()
	gone.Data = []byte{}
	checkRight(t, api.Letter{Kind: api.LStore, Records: []api.Record{gone}})
	for _, data := range [][]byte{nil, {}} {
		r := symbol()
		r.Data = data
		checkWrong(t, api.Letter{Kind: api.LStore, Records: []api.Record{r}})
	}
}

func TestP2201EachBeginningIsNoLetter(t *testing.T) {
	for _, c := range known() {
		b := bytesOf(c.text)
		for n := range b {
			checkNone(t, b[:n])
		}
		for n := range min(len(b), 200) {
			checkNone(t, bytes.Clone(b[:n]))
		}
	}
}

func TestP2201MoreBehindIsNoLetter(t *testing.T) {
	for _, c := range known() {
		b := bytesOf(c.text)
		for _, more := range [][]byte{{0}, {1}, {255}, {0, 0}, make([]byte, 4), writtenRecord(tombstone()), append(number(13, 2), writtenRecord(tombstone())...), make([]byte, 1<<17), b} {
			checkNone(t, append(bytes.Clone(b), more...))
		}
		checkNone(t, append([]byte{1}, b...))
	}
}

func TestP2201CountsThatAreNotWhatFollows(t *testing.T) {
	for _, c := range known() {
		b := bytesOf(c.text)
		for _, at := range []int{head, head + 1 + 4*len(c.l.Peers)} {
			was := b[at]
			for n := range 256 {
				b[at] = byte(n)
				if is := checkSpelled(t, b); is != (byte(n) == was) {
					t.Errorf("P2201: of a count %d in place of %d there are letters: %v", n, was, is)
				}
			}
			b[at] = was
		}
	}
}

// withLength is the letter's bytes with n as the length of its record of that place.
func withLength(l api.Letter, place, n int) []byte {
	at := len(written(api.Letter{Peers: l.Peers, Records: l.Records[:place]}))
	b := written(l)
	copy(b[at:], number(n, 2))
	return b
}

func TestP2201LengthsThatAreNotTheRecords(t *testing.T) {
	for _, c := range small() {
		for place, r := range c.l.Records {
			is := len(writtenRecord(r))
			for n := range 1 << 16 {
				if n > 300 && n%256 > 90 && n < 65535-30 {
					continue
				}
				if b := withLength(c.l, place, n); checkSpelled(t, b) != (n == is) {
					t.Errorf("P2201: of a record's length %d in place of %d: %x", n, is, b)
				}
			}
		}
	}
}

func TestP2201EveryByteTurned(t *testing.T) {
	for _, c := range small() {
		b := bytesOf(c.text)
		for i, was := range b {
			for x := range 256 {
				b[i] = byte(x)
				checkSpelled(t, b)
			}
			b[i] = was
		}
	}
}

func TestP2201ZerosAreNoLetter(t *testing.T) {
	for _, n := range []int{1, 2, 20, 21, 22, 23, 24, 25, 100, 1 << 17} {
		for _, x := range []byte{0, 1, 2, 3, 255} {
			b := bytes.Repeat([]byte{x}, n)
			checkNone(t, b)
			for kind := byte(0); kind <= 4; kind++ {
				b[0] = kind
				if n != head+2 || x != 0 {
					checkNone(t, b)
				}
			}
		}
	}
}

// chance makes numbers.
type chance uint32

func (c *chance) below(n int) int {
	*c = *c*1664525 + 1013904223
	return int(*c>>9) % n
}

// number draws a number that a letter can have, and seldom one that it can't.
func (c *chance) number() int {
	return []int{0, 1, c.below(256), c.below(1 << 20), most, most - c.below(300), 0x01020304, most + c.below(90)/89}[c.below(8)]
}

// record draws a record that is right, but for few.
func (c *chance) record() api.Record {
	r := api.Record{Id: api.Id{Peer: c.below(1 << 20), Number: 1 + c.below(300)}, Until: c.below(70000), Gone: c.below(3) == 0}
	if c.below(150) == 0 {
		r.Id.Number = 0
	}
	if r.Gone {
		return r
	}
	r.Shape = api.Shape{Bytes: 1 + c.below(4000), Size: 1 + c.below(64), Most: 1 + c.below(40)}
	r.Block, r.Esi, r.Data = c.below(150)/149, c.below(1<<22), make([]byte, r.Shape.Size-c.below(150)/149)
	for i := range r.Data {
		r.Data[i] = byte(c.below(256))
	}
	return r
}

// letter draws a letter that mostly can be.
func (c *chance) letter() api.Letter {
	l := api.Letter{Kind: (1 + c.below(60)) / 20, From: c.number(), To: c.number(), Tag: c.number(), Id: api.Id{Peer: c.number(), Number: c.number()}}
	for range c.below(6) * c.below(3) {
		l.Peers = append(l.Peers, c.number())
	}
	for range c.below(6) * c.below(3) {
		l.Records = append(l.Records, c.record())
	}
	return l
}

func TestP2201DrawnLetters(t *testing.T) {
	c := chance(2201)
	right, all := 0, 20000
	for range all {
		l := c.letter()
		if checkSpelled(t, written(l)) {
			right++
			checkRight(t, l)
		} else {
			checkWrong(t, l)
		}
	}
	if right < all/4 || right > all*3/4 {
		t.Errorf("P2201: %d of %d drawn letters can be: they tell too little", right, all)
	}
}

func TestP2201DrawnTurns(t *testing.T) {
	c := chance(22)
	for range 20000 {
		b := written(c.letter())
		for range 1 + c.below(3) {
			at := c.below(len(b))
			switch c.below(4) {
			case 0:
				b[at] ^= 1 << c.below(8)
			case 1:
				b[at] = byte(c.below(256))
			case 2:
				b = slices.Insert(b, at, byte(c.below(3)))
			case 3:
				b = append(slices.Delete(b, at, at+1), 0)
			}
		}
		checkSpelled(t, b)
	}
}

func TestP2201DrawnBytes(t *testing.T) {
	c := chance(7)
	for range 20000 {
		b := make([]byte, c.below(70))
		for i := range b {
			b[i] = byte(c.below(256) * c.below(2) * c.below(2))
		}
		if len(b) > head {
			b[0], b[head] = byte(c.below(4)), byte(c.below(5))
		}
		checkSpelled(t, b)
	}
}

// roomy is the letter with spare room behind each of its lists, and what fills the room.
func roomy(l api.Letter) api.Letter {
	for i, r := range l.Records {
		l.Records[i].Data = append(bytes.Clone(r.Data), 71, 72, 73)[:len(r.Data)]
	}
	l.Peers = append(slices.Clone(l.Peers), -71, -72, -73)[:len(l.Peers)]
	l.Records = append(slices.Clone(l.Records), api.Record{Until: -71, Data: []byte{1, 2}}, api.Record{Until: -72})[:len(l.Records)]
	return l
}

// checkRoom asks whether the letter, spare room and all, is as roomy made it of the other one.
func checkRoom(t *testing.T, l, of api.Letter) {
	t.Helper()
	if !same(l, of) {
		t.Errorf("P2202: a letter handed in is turned from %v to %v", of, l)
	}
	if room := l.Peers[:len(l.Peers)+3]; !slices.Equal(room[len(l.Peers):], []int{-71, -72, -73}) {
		t.Errorf("P2202: behind the Peers handed in there is %v", room)
	}
	room := l.Records[:len(l.Records)+2]
	if !slices.EqualFunc(room[len(l.Records):], []api.Record{{Until: -71, Data: []byte{1, 2}}, {Until: -72}}, sameRecord) {
		t.Errorf("P2202: behind the Records handed in there is %v", room)
	}
	for _, r := range l.Records {
		if room := r.Data[:len(r.Data)+3]; !bytes.Equal(room[len(r.Data):], []byte{71, 72, 73}) {
			t.Errorf("P2202: behind the Data of a record handed in there is %x", room)
		}
	}
}

func TestP2202LettersHandedInStay(t *testing.T) {
	spoiltOne := plain()
	spoiltOne.Records = append(spoiltOne.Records, spoilt()[0])
	for _, c := range append(known(), ofKnown{l: plain()}, ofKnown{l: api.Letter{}}, ofKnown{l: spoiltOne}) {
		l := roomy(copied(c.l))
		Bytes(l)
		checkRoom(t, l, c.l)
	}
}

func TestP2202BytesHandedInStay(t *testing.T) {
	for _, c := range known() {
		whole := bytesOf(c.text)
		for _, b := range [][]byte{whole, whole[:len(whole)-1], append(bytes.Clone(whole), 7), whole[1:]} {
			room := append(bytes.Clone(b), 71, 72, 73, 74)
			was := bytes.Clone(room)
			Read(room[:len(b)])
			if !bytes.Equal(room, was) {
				t.Errorf("P2202: bytes handed in are turned: %x, not %x", room, was)
			}
		}
	}
}

// turn makes all numbers of a letter's lists others, and what is behind them too.
func turn(l api.Letter) {
	for i := range l.Peers[:cap(l.Peers)] {
		l.Peers[:cap(l.Peers)][i] += 1000
	}
	for i, r := range l.Records[:cap(l.Records)] {
		for j := range r.Data[:cap(r.Data)] {
			r.Data[:cap(r.Data)][j]++
		}
		l.Records[:cap(l.Records)][i] = api.Record{Until: -5, Data: []byte{5}}
	}
}

func TestP2202BytesAreNewMemory(t *testing.T) {
	for _, c := range known() {
		l := copied(c.l)
		first := Bytes(l)
		first = first[:cap(first)]
		for i := range first {
			first[i] += 5
		}
		if !same(l, c.l) {
			t.Errorf("P2202: turning what Bytes answered turned the letter to %v", l)
		}
		second := Bytes(l)
		turn(l)
		if !bytes.Equal(second, bytesOf(c.text)) || !bytes.Equal(Bytes(c.l), second) {
			t.Errorf("P2202: turning the letter handed in, or an answer, turned Bytes to %x", second)
		}
	}
}

func TestP2202LettersAreNewMemory(t *testing.T) {
	for _, c := range known() {
		room := append(bytesOf(c.text), 71, 72, 73)
		was := bytes.Clone(room)
		b := room[:len(room)-3]
		turned, err := Read(b)
		kept, _ := Read(b)
		if err != api.OK {
			t.Fatalf("P2202: Read(%s) is %d", c.text, err)
		}
		turn(turned)
		if !bytes.Equal(room, was) {
			t.Errorf("P2202: turning what Read answered turned the bytes handed in to %x", room)
		}
		for i := range room {
			room[i] += 5
		}
		if !same(kept, c.l) {
			t.Errorf("P2202: turning what was handed in, or another answer, turned Read's to %v", kept)
		}
		if again, err := Read(bytesOf(c.text)); err != api.OK || !same(again, c.l) {
			t.Errorf("P2202: behind turned ones Read is %v, %d", again, err)
		}
	}
}

func TestP2202EachListIsOfItsOwn(t *testing.T) {
	for _, c := range known() {
		for at := range c.l.Records {
			got, _ := Read(bytesOf(c.text))
			data := got.Records[at].Data[:cap(got.Records[at].Data)]
			for i := range data {
				data[i] += 9
			}
			got.Records[at].Data = bytes.Clone(c.l.Records[at].Data)
			if !same(got, c.l) {
				t.Fatalf("P2202: turning the Data of record %d turned others: %v", at, got)
			}
		}
	}
}

func TestP2202SameAnswersInAnyOrder(t *testing.T) {
	all := known()
	ask := func(i int) {
		c := all[i%len(all)]
		if b := Bytes(c.l); !bytes.Equal(b, bytesOf(c.text)) {
			t.Errorf("P2202: Bytes(%v) is now %x", c.l, b)
		}
		if l, err := Read(bytesOf(c.text)); err != api.OK || !same(l, c.l) {
			t.Errorf("P2202: Read(%s) is now %v, %d", c.text, l, err)
		}
		checkWrong(t, api.Letter{Kind: i%7 - 7, Peers: c.l.Peers})
		checkNone(t, bytesOf(c.text)[:head+1])
	}
	for i := range all {
		ask(i)
	}
	for i := range all {
		ask(len(all) - 1 - i)
		ask(i * 5)
	}
}

func TestP2202AskedAtOnce(t *testing.T) {
	all := known()
	var busy sync.WaitGroup
	for start := range 8 {
		busy.Go(func() {
			for i := range 100 {
				c := all[(start+i)%len(all)]
				b := Bytes(c.l)
				l, err := Read(b)
				if !bytes.Equal(b, bytesOf(c.text)) || err != api.OK || !same(l, c.l) {
					t.Errorf("P2202: asked at once, %v is %x, and back %v, %d", c.l, b, l, err)
				}
			}
		})
	}
	busy.Wait()
}
