package record

import (
	"bytes"
	"encoding/hex"
	"math"
	"slices"
	"sync"
	"testing"

	"fountain/api"
)

// most is the greatest number of a peer, of an object, of a tick.
const most = 1<<31 - 1

// lastEsi is the greatest number of a symbol.
const lastEsi = api.MaxEsi - 1

// bytesOf are the bytes that these digits spell.
func bytesOf(digits string) []byte {
	b, err := hex.DecodeString(digits)
	if err != nil {
		panic(err)
	}
	return b
}

// known are records, and the bytes that they are, reckoned apart from the program (the first by hand).
var known = []struct {
	r    api.Record
	text string
}{
	{api.Record{Id: api.Id{Number: 1}, Gone: true}, "01" + "00000000" + "00000001" + "00000000"},
	{api.Record{Id: api.Id{Peer: 0x01020304, Number: 0x05060708}, Gone: true, Until: 0x090a0b0c}, "01" + "01020304" + "05060708" + "090a0b0c"},
	{api.Record{Id: api.Id{Peer: most, Number: most}, Gone: true, Until: most}, "01" + "7fffffff" + "7fffffff" + "7fffffff"},
	{api.Record{Id: api.Id{Number: 1}, Shape: api.Shape{Bytes: 1, Size: 1, Most: 1}, Data: []byte{0}},
		"00" + "00000000" + "00000001" + "00000000" + "0001" + "0001" + "0001" + "0000" + "000000" + "00"},
	{api.Record{Id: api.Id{Peer: 2, Number: 3}, Shape: api.Shape{Bytes: 5, Size: 2, Most: 2}, Block: 1, Esi: 0x010203, Until: 77, Data: []byte{9, 8}},
		"00" + "00000002" + "00000003" + "0000004d" + "0005" + "0002" + "0002" + "0001" + "010203" + "0908"},
	{api.Record{Id: api.Id{Peer: most, Number: most}, Shape: api.Shape{Bytes: 4000, Size: 1, Most: 1}, Block: 3999, Esi: lastEsi, Until: most, Data: []byte{255}},
		"00" + "7fffffff" + "7fffffff" + "7fffffff" + "0fa0" + "0001" + "0001" + "0f9f" + "ffffff" + "ff"},
	{api.Record{Id: api.Id{Peer: 1195733759, Number: 255}, Shape: api.Shape{Bytes: 1, Size: 64, Most: 40}, Block: 0, Esi: 255, Until: 1192725688, Data: bytesOf("32af76d6ddec4aabbee4232cdad2b7ea34ce27d9ff371a265e5fa3e0d6506b9a4acada1f670df7e7fc372338c95e31fc30ba4cf14b011ad145af3e70178b6a85")},
		"00474572ff000000ff47178cb800010040002800000000ff32af76d6ddec4aabbee4232cdad2b7ea34ce27d9ff371a265e5fa3e0d6506b9a4acada1f670df7e7fc372338c95e31fc30ba4cf14b011ad145af3e70178b6a85"},
	{api.Record{Id: api.Id{Peer: 11, Number: 2}, Shape: api.Shape{Bytes: 256, Size: 2, Most: 7}, Block: 0, Esi: 16777215, Until: 1, Data: bytesOf("0bb9")},
		"000000000b00000002000000010100000200070000ffffff0bb9"},
	{api.Record{Id: api.Id{Peer: 256, Number: 1549853330}, Shape: api.Shape{Bytes: 4000, Size: 8, Most: 2}, Block: 91, Esi: 255, Until: 1, Data: bytesOf("fc865e88a05c98c5")},
		"00000001005c60e292000000010fa000080002005b0000fffc865e88a05c98c5"},
	{api.Record{Id: api.Id{Peer: 65536, Number: 2147483647}, Shape: api.Shape{Bytes: 999, Size: 2, Most: 2}, Block: 249, Esi: 16777215, Until: 256, Data: bytesOf("bb72")},
		"00000100007fffffff0000010003e70002000200f9ffffffbb72"},
	{api.Record{Id: api.Id{Peer: 255, Number: 1}, Shape: api.Shape{Bytes: 257, Size: 1, Most: 10}, Block: 25, Esi: 255, Until: 255, Data: bytesOf("9f")},
		"00000000ff00000001000000ff01010001000a00190000ff9f"},
	{api.Record{Id: api.Id{Peer: 65536, Number: 255}, Shape: api.Shape{Bytes: 1, Size: 2, Most: 1}, Block: 0, Esi: 65535, Until: 0, Data: bytesOf("d57f")},
		"0000010000000000ff00000000000100020001000000ffffd57f"},
	{api.Record{Id: api.Id{Peer: 11, Number: 234072949}, Shape: api.Shape{Bytes: 5, Size: 64, Most: 10}, Block: 0, Esi: 256, Until: 0, Data: bytesOf("f34650bd76081ae9407d10a862ce6d7060b6c655f414473a7719471dabb7cff2967ce340a9dcaef9318df1b62d2906e50ecd70bc7070262a891ab048467b6730")},
		"000000000b0df3ab750000000000050040000a0000000100f34650bd76081ae9407d10a862ce6d7060b6c655f414473a7719471dabb7cff2967ce340a9dcaef9318df1b62d2906e50ecd70bc7070262a891ab048467b6730"},
	{api.Record{Id: api.Id{Peer: 1, Number: 1}, Shape: api.Shape{Bytes: 40, Size: 13, Most: 2}, Block: 0, Esi: 65536, Until: 1345583439, Data: bytesOf("dd56ced64e0aa5c44fd1fd553c")},
		"0000000001000000015033f94f0028000d00020000010000dd56ced64e0aa5c44fd1fd553c"},
	{api.Record{Id: api.Id{Peer: 255, Number: 2}, Shape: api.Shape{Bytes: 999, Size: 64, Most: 1}, Block: 15, Esi: 256, Until: 1653874198, Data: bytesOf("a42096211e661345a2ccc721e306c2b1f1ec5fc408d999a2a391e7e37287c1c9d54d61ec037a069a39243307bb3bbf12738ace473b48bb8fc514f54500d20b9c")},
		"00000000ff0000000262941e1603e700400001000f000100a42096211e661345a2ccc721e306c2b1f1ec5fc408d999a2a391e7e37287c1c9d54d61ec037a069a39243307bb3bbf12738ace473b48bb8fc514f54500d20b9c"},
	{api.Record{Id: api.Id{Peer: 256, Number: 2147483647}, Shape: api.Shape{Bytes: 257, Size: 5, Most: 39}, Block: 0, Esi: 10853478, Until: 1, Data: bytesOf("66895cf2e5")},
		"00000001007fffffff000000010101000500270000a59c6666895cf2e5"},
	{api.Record{Id: api.Id{Peer: 256, Number: 299272544}, Gone: true, Until: 356500474}, "010000010011d68960153fc3fa"},
	{api.Record{Id: api.Id{Peer: 847813161, Number: 1}, Gone: true, Until: 1679780710}, "0132889a2900000001641f6b66"},
	{api.Record{Id: api.Id{Peer: 65536, Number: 256}, Gone: true, Until: 256}, "01000100000000010000000100"},
}

// shaped are right shapes, and how many blocks they have, worked out by hand.
var shaped = []struct {
	s      api.Shape
	blocks int
}{
	{api.Shape{Bytes: 1, Size: 1, Most: 1}, 1},
	{api.Shape{Bytes: 1, Size: api.MaxSize, Most: api.MaxK}, 1},
	{api.Shape{Bytes: 5, Size: 2, Most: 2}, 2},
	{api.Shape{Bytes: 5, Size: 2, Most: 3}, 1},
	{api.Shape{Bytes: 7, Size: 2, Most: 1}, 4},
	{api.Shape{Bytes: 41, Size: 4, Most: 10}, 2},
	{api.Shape{Bytes: 40, Size: 4, Most: 10}, 1},
	{api.Shape{Bytes: 22, Size: 1, Most: 5}, 5},
	{api.Shape{Bytes: 300, Size: 1, Most: 1}, 300},
	{api.Shape{Bytes: api.MaxObject, Size: api.MaxSize, Most: api.MaxK}, 2},
	{api.Shape{Bytes: api.MaxObject, Size: api.MaxSize, Most: 1}, 63},
	{api.Shape{Bytes: api.MaxObject, Size: 1, Most: api.MaxK}, 100},
	{api.Shape{Bytes: api.MaxObject, Size: 1, Most: 1}, 4000},
}

// beyond are numbers below the least, and above the greatest, the nearest ones ahead.
func beyond(least, greatest int) []int {
	return []int{
		least - 1, greatest + 1, least - 2, greatest + 2, -1, -greatest - 1, 2*greatest + 2,
		-1 << 31, 1 << 31, 1 << 32, 1<<32 + 1, -1 << 32, 1<<40 + 1, math.MinInt, math.MinInt + 1, math.MinInt + 2, math.MaxInt, math.MaxInt - 1,
	}
}

// symbol is a right record of that shape and block.
func symbol(s api.Shape, block int) api.Record {
	data := make([]byte, s.Size)
	for i := range data {
		data[i] = byte(17*i + block + 3)
	}
	return api.Record{Id: api.Id{Peer: 2, Number: 3}, Shape: s, Block: block, Esi: 5, Until: 7, Data: data}
}

// plain is a right record from which others differ.
func plain() api.Record {
	return symbol(api.Shape{Bytes: 5, Size: 2, Most: 2}, 1)
}

// tombstone is a right record that says Gone.
func tombstone() api.Record {
	return api.Record{Id: api.Id{Peer: 2, Number: 3}, Gone: true, Until: 7}
}

func same(a, b api.Record) bool {
	return a.Id == b.Id && a.Shape == b.Shape && a.Block == b.Block && a.Esi == b.Esi && a.Gone == b.Gone && a.Until == b.Until && bytes.Equal(a.Data, b.Data)
}

func zero(r api.Record) bool {
	return same(r, api.Record{})
}

// copied is the record with Data of its own.
func copied(r api.Record) api.Record {
	r.Data = bytes.Clone(r.Data)
	return r
}

// number is n as so many bytes, by counting: how often 256, 256 times 256 .. go into it.
func number(n, width int) []byte {
	b := make([]byte, width)
	for i := width - 1; i >= 0; i-- {
		b[i] = byte(n % 256)
		n /= 256
	}
	return b
}

// written is what the chapter says the record is as bytes, right or not, of numbers not below 0.
func written(r api.Record) []byte {
	first := []byte{0}
	if r.Gone {
		first = []byte{1}
	}
	head := slices.Concat(first, number(r.Id.Peer, 4), number(r.Id.Number, 4), number(r.Until, 4))
	if r.Gone {
		return head
	}
	return slices.Concat(head, number(r.Shape.Bytes, 2), number(r.Shape.Size, 2), number(r.Shape.Most, 2), number(r.Block, 2), number(r.Esi, 3), r.Data)
}

// value is the number that the bytes from one place to another tell.
func value(b []byte, from, to int) int {
	n := 0
	for _, x := range b[from:to] {
		n = n*256 + int(x)
	}
	return n
}

// hasBlock tells whether an object of a right shape has that block, by dealing out its bytes.
func hasBlock(s api.Shape, block int) bool {
	room := block * s.Most * s.Size
	return room < s.Bytes
}

// spelled is the record that the bytes are by the chapter's words, if they are one.
func spelled(b []byte) (api.Record, bool) {
	if len(b) < 13 || b[0] > 1 {
		return api.Record{}, false
	}
	r := api.Record{Id: api.Id{Peer: value(b, 1, 5), Number: value(b, 5, 9)}, Until: value(b, 9, 13), Gone: b[0] == 1}
	if r.Id.Peer > most || r.Id.Number > most || r.Id.Number == 0 || r.Until > most {
		return api.Record{}, false
	}
	if r.Gone {
		return r, len(b) == 13
	}
	if len(b) < 24 {
		return api.Record{}, false
	}
	r.Shape = api.Shape{Bytes: value(b, 13, 15), Size: value(b, 15, 17), Most: value(b, 17, 19)}
	r.Block, r.Esi, r.Data = value(b, 19, 21), value(b, 21, 24), b[24:]
	s := r.Shape
	if s.Bytes < 1 || s.Bytes > 4000 || s.Size < 1 || s.Size > 64 || s.Most < 1 || s.Most > 40 {
		return api.Record{}, false
	}
	return r, hasBlock(s, r.Block) && len(r.Data) == s.Size
}

// checkRight asks all three calls of a record that is right.
func checkRight(t *testing.T, r api.Record) {
	t.Helper()
	if !Right(r) {
		t.Errorf("P1401: Right(%v) is false", r)
	}
	b := Bytes(r)
	if !bytes.Equal(b, written(r)) {
		t.Errorf("P1401: Bytes(%v) is %x, not %x", r, b, written(r))
	}
	if got, err := Read(written(r)); err != api.OK || !same(got, r) {
		t.Errorf("P1401: Read(%x) is %v, %d, not %v", written(r), got, err, r)
	}
}

// checkWrong asks of a record that is not right.
func checkWrong(t *testing.T, r api.Record) {
	t.Helper()
	if Right(r) {
		t.Errorf("P1401: Right(%v) is true", r)
	}
	if b := Bytes(r); len(b) != 0 {
		t.Errorf("P1401: Bytes(%v), which is not right, is %x", r, b)
	}
}

// checkNone asks Read of bytes that no right record is.
func checkNone(t *testing.T, b []byte) {
	t.Helper()
	if r, err := Read(b); err != api.ErrBytes || !zero(r) {
		t.Errorf("P1401: Read(%x), of no record, is %v, %d", b, r, err)
	}
}

func TestP1401Example(t *testing.T) {
	checkNone(t, nil)
	checkNone(t, []byte{})
}

func TestP1401KnownRecordsAreTheseBytes(t *testing.T) {
	for _, c := range known {
		if !Right(c.r) {
			t.Errorf("P1401: Right(%v) is false", c.r)
		}
		if b := Bytes(c.r); !bytes.Equal(b, bytesOf(c.text)) {
			t.Errorf("P1401: Bytes(%v) is %x, not %s", c.r, b, c.text)
		}
		if r, err := Read(bytesOf(c.text)); err != api.OK || !same(r, c.r) {
			t.Errorf("P1401: Read(%s) is %v, %d, not %v", c.text, r, err, c.r)
		}
	}
}

func TestP1401BlocksOfManyShapes(t *testing.T) {
	for _, c := range shaped {
		for _, block := range []int{0, c.blocks / 2, c.blocks - 1} {
			checkRight(t, symbol(c.s, block))
		}
		r := symbol(c.s, 0)
		for _, block := range beyond(0, c.blocks-1) {
			r.Block = block
			checkWrong(t, r)
			if block >= 0 && block < 1<<16 {
				checkNone(t, written(r))
			}
		}
	}
}

func TestP1401EveryBlockOfSomeShapes(t *testing.T) {
	for size := 1; size <= 7; size++ {
		for most := 1; most <= 9; most++ {
			for n := 1; n <= 60; n++ {
				s := api.Shape{Bytes: n, Size: size, Most: most}
				for block := range 62 {
					r := symbol(s, block)
					if Right(r) != hasBlock(s, block) {
						t.Fatalf("P1401: Right(%v) is %v", r, Right(r))
					}
				}
			}
		}
	}
}

func TestP1401NumbersAtTheirEnds(t *testing.T) {
	for _, r := range []api.Record{plain(), tombstone()} {
		for _, n := range []int{0, 1, 255, 256, 65535, 65536, 1<<24 - 1, 1 << 24, most - 1, most} {
			r.Id.Peer, r.Id.Number, r.Until = n, 3, 7
			checkRight(t, r)
			r.Id.Peer, r.Until = 2, n
			checkRight(t, r)
			r.Id.Number, r.Until = max(n, 1), 7
			checkRight(t, r)
		}
	}
	r := plain()
	for _, esi := range []int{0, 1, 255, 256, 65535, 65536, 1 << 23, lastEsi - 1, lastEsi} {
		r.Esi = esi
		checkRight(t, r)
	}
}

func TestP1401NumbersBeyondTheirEnds(t *testing.T) {
	for _, of := range []func() api.Record{plain, tombstone} {
		for _, n := range beyond(0, most) {
			r := of()
			r.Id.Peer = n
			checkWrong(t, r)
			r = of()
			r.Until = n
			checkWrong(t, r)
		}
		for _, n := range append(beyond(1, most), 0) {
			r := of()
			r.Id.Number = n
			checkWrong(t, r)
		}
	}
	r := plain()
	for _, esi := range beyond(0, lastEsi) {
		r.Esi = esi
		checkWrong(t, r)
	}
}

func TestP1401NumbersInBytesBeyondTheirEnds(t *testing.T) {
	for _, of := range []func() api.Record{plain, tombstone} {
		for _, n := range []int{1 << 31, 1<<31 + 1, 1<<32 - 1, 3 << 30} {
			r := of()
			r.Id.Peer = n
			checkNone(t, written(r))
			r = of()
			r.Until = n
			checkNone(t, written(r))
			r = of()
			r.Id.Number = n
			checkNone(t, written(r))
		}
		r := of()
		r.Id.Number = 0
		checkNone(t, written(r))
	}
}

func TestP1401ShapesThatAreNotRight(t *testing.T) {
	check := func(s api.Shape, data int) {
		r := plain()
		r.Shape, r.Block, r.Data = s, 0, make([]byte, data)
		checkWrong(t, r)
		if s.Bytes >= 0 && s.Bytes < 1<<16 && s.Size >= 0 && s.Size < 1<<16 && s.Most >= 0 && s.Most < 1<<16 {
			checkNone(t, written(r))
		}
	}
	for _, n := range beyond(1, api.MaxObject) {
		check(api.Shape{Bytes: n, Size: 2, Most: 2}, 2)
	}
	for _, n := range append(beyond(1, api.MaxSize), 65535) {
		for _, data := range []int{0, 1, 2, min(max(n, 0), 1<<16)} {
			check(api.Shape{Bytes: 5, Size: n, Most: 2}, data)
		}
	}
	for _, n := range append(beyond(1, api.MaxK), 65535) {
		check(api.Shape{Bytes: 5, Size: 2, Most: n}, 2)
	}
	check(api.Shape{}, 0)
	check(api.Shape{}, 2)
}

func TestP1401DataAsLongAsSize(t *testing.T) {
	for _, c := range shaped {
		for n := range api.MaxSize + 3 {
			r := symbol(c.s, 0)
			r.Data = bytes.Repeat([]byte{byte(n)}, n)
			if n == c.s.Size {
				checkRight(t, r)
				continue
			}
			checkWrong(t, r)
			checkNone(t, written(r))
		}
		r := symbol(c.s, 0)
		r.Data = nil
		checkWrong(t, r)
	}
}

func TestP1401TombstonesHaveNothingElse(t *testing.T) {
	empty := tombstone()
	empty.Data = []byte{}
	checkRight(t, empty)
	for _, n := range []int{1, 2, -1, 1 << 32, math.MinInt, math.MaxInt} {
		for _, change := range []func(r *api.Record){
			func(r *api.Record) { r.Shape.Bytes = n },
			func(r *api.Record) { r.Shape.Size = n },
			func(r *api.Record) { r.Shape.Most = n },
			func(r *api.Record) { r.Block = n },
			func(r *api.Record) { r.Esi = n },
		} {
			r := tombstone()
			change(&r)
			checkWrong(t, r)
		}
	}
	for _, change := range []func(r *api.Record){
		func(r *api.Record) { r.Shape = plain().Shape },
		func(r *api.Record) { r.Data = []byte{0} },
		func(r *api.Record) { r.Data = make([]byte, 100) },
		func(r *api.Record) { r.Id = api.Id{} },
	} {
		r := tombstone()
		change(&r)
		checkWrong(t, r)
	}
	both := plain()
	both.Gone = true
	checkWrong(t, both)
	checkWrong(t, api.Record{})
	checkWrong(t, api.Record{Gone: true})
}

func TestP1401BytesCutOffOrLonger(t *testing.T) {
	for _, c := range known {
		b := bytesOf(c.text)
		for n := range b {
			checkNone(t, b[:n])
			checkNone(t, bytes.Clone(b[:n]))
			checkNone(t, b[n+1:])
		}
		for _, more := range []byte{0, 1, 255} {
			checkNone(t, append(bytes.Clone(b), more))
		}
		checkNone(t, append(bytes.Clone(b), b...))
	}
}

func TestP1401FirstByteTellsTheKind(t *testing.T) {
	for _, c := range known {
		b := bytesOf(c.text)
		for first := range 256 {
			if byte(first) == bytesOf(c.text)[0] {
				continue
			}
			b[0] = byte(first)
			checkNone(t, b)
		}
	}
}

func TestP1401ZerosAreNoRecord(t *testing.T) {
	for n := range 120 {
		checkNone(t, make([]byte, n))
		b := bytes.Repeat([]byte{255}, n)
		checkNone(t, b)
		if n > 0 {
			b[0] = 1
			checkNone(t, b)
			b[0] = 0
			checkNone(t, b)
		}
	}
	checkNone(t, make([]byte, 1<<17))
	checkNone(t, append(written(tombstone()), make([]byte, 1<<17)...))
	checkNone(t, append(written(plain()), make([]byte, 1<<16)...))
}

// checkSpelled asks Read of any bytes, by the chapter's words.
func checkSpelled(t *testing.T, b []byte) {
	t.Helper()
	r, ok := spelled(b)
	if !ok {
		checkNone(t, b)
		return
	}
	checkRight(t, r)
	if got, err := Read(b); err != api.OK || !same(got, r) || !bytes.Equal(Bytes(got), b) {
		t.Errorf("P1401: Read(%x) is %v, %d, not %v", b, got, err, r)
	}
}

func TestP1401EveryByteTurned(t *testing.T) {
	for _, c := range known {
		b := bytesOf(c.text)
		for i := range b[:min(len(b), 26)] {
			for x := range 256 {
				turned := bytes.Clone(b)
				turned[i] = byte(x)
				checkSpelled(t, turned)
			}
		}
	}
}

// chance makes numbers.
type chance uint32

func (c *chance) below(n int) int {
	*c = *c*1664525 + 1013904223
	return int(*c>>9) % n
}

// draw is a record that is mostly right, or very nearly.
func (c *chance) draw() api.Record {
	edge := func(n int) int { return []int{0, 1, n / 2, n - 1, n, n + 1, c.below(n + 2)}[c.below(7)] }
	r := api.Record{Id: api.Id{Peer: c.below(1 << 20), Number: 1 + c.below(300)}, Until: c.below(70000)}
	if c.below(6) == 0 {
		r.Gone = true
		return r
	}
	r.Shape = api.Shape{Bytes: edge(api.MaxObject), Size: edge(api.MaxSize), Most: edge(api.MaxK)}
	r.Block, r.Esi, r.Data = c.below(1+c.below(4)), c.below(1<<22), make([]byte, max(r.Shape.Size-c.below(5)/4, 0))
	for i := range r.Data {
		r.Data[i] = byte(c.below(256))
	}
	return r
}

func TestP1401DrawnRecords(t *testing.T) {
	c := chance(1401)
	right := 0
	for range 20000 {
		r := c.draw()
		_, ok := spelled(written(r))
		if ok {
			right++
			checkRight(t, r)
		} else {
			checkWrong(t, r)
		}
		checkSpelled(t, written(r))
	}
	if right < 4000 || right > 16000 {
		t.Errorf("P1401: %d of the drawn records are right: they tell too little", right)
	}
}

func TestP1401DrawnBytes(t *testing.T) {
	c := chance(14)
	for range 20000 {
		b := make([]byte, c.below(40))
		for i := range b {
			b[i] = byte(c.below(256) * (c.below(2)))
		}
		if len(b) > 0 {
			b[0] &= 1
		}
		checkSpelled(t, b)
	}
}

func TestP1402HandedInStays(t *testing.T) {
	for _, c := range known {
		for _, r := range []api.Record{c.r, plain(), tombstone()} {
			room := append(bytes.Clone(r.Data), 71, 72, 73, 74)
			was := bytes.Clone(room)
			r.Data = room[:len(r.Data)]
			before := copied(r)
			Right(r)
			Bytes(r)
			if !bytes.Equal(room, was) || !same(r, before) {
				t.Errorf("P1402: a record handed in is turned from %v to %v, its Data's room is %x", before, r, room)
			}
		}
		for _, more := range [][]byte{nil, {7}} {
			b := append(bytesOf(c.text), more...)
			room := append(bytes.Clone(b), 71, 72, 73, 74)
			was := bytes.Clone(room)
			Read(room[:len(b)])
			if !bytes.Equal(room, was) {
				t.Errorf("P1402: bytes handed in are turned: %x, not %x", room, was)
			}
		}
	}
}

func TestP1402BytesAreNewMemory(t *testing.T) {
	for _, c := range known {
		r := copied(c.r)
		b := Bytes(r)
		b = append(b, 1, 2, 3)
		for i := range b {
			b[i]++
		}
		if !same(r, c.r) {
			t.Errorf("P1402: turning what Bytes answered turned the record to %v", r)
		}
		again := Bytes(r)
		for i := range r.Data {
			r.Data[i]++
		}
		if !bytes.Equal(again, bytesOf(c.text)) || !bytes.Equal(Bytes(c.r), again) {
			t.Errorf("P1402: turning the record handed in, or an answer, turned Bytes to %x", again)
		}
	}
}

func TestP1402RecordsAreNewMemory(t *testing.T) {
	for _, c := range known {
		room := append(bytesOf(c.text), 71, 72, 73)
		b := room[:len(room)-3]
		got, _ := Read(b)
		kept, _ := Read(b)
		data := append(got.Data, 9, 9)
		for i := range data {
			data[i]++
		}
		for i := range got.Data {
			got.Data[i]++
		}
		if !bytes.Equal(room, append(bytesOf(c.text), 71, 72, 73)) {
			t.Errorf("P1402: turning what Read answered turned the bytes handed in to %x", room)
		}
		for i := range room {
			room[i] += 5
		}
		if !same(kept, c.r) {
			t.Errorf("P1402: turning what was handed in, or another answer, turned Read's to %v", kept)
		}
		if again, err := Read(bytesOf(c.text)); err != api.OK || !same(again, c.r) {
			t.Errorf("P1402: behind turned ones Read is %v, %d", again, err)
		}
	}
}

func TestP1402NilAndEmptyAreTheSame(t *testing.T) {
	empty := tombstone()
	empty.Data = []byte{}
	if !Right(empty) || !bytes.Equal(Bytes(empty), Bytes(tombstone())) {
		t.Error("P1402: a tombstone of empty Data is not as one of none")
	}
	for _, data := range [][]byte{nil, {}} {
		r := plain()
		r.Data = data
		checkWrong(t, r)
		r.Shape = api.Shape{}
		checkWrong(t, r)
	}
}

func TestP1402SameAnswersInAnyOrder(t *testing.T) {
	ask := func(i int) {
		c := known[i]
		if b := Bytes(c.r); !Right(c.r) || !bytes.Equal(b, bytesOf(c.text)) {
			t.Errorf("P1402: Bytes(%v) is now %x", c.r, b)
		}
		if r, err := Read(bytesOf(c.text)); err != api.OK || !same(r, c.r) {
			t.Errorf("P1402: Read(%s) is now %v, %d", c.text, r, err)
		}
		checkWrong(t, api.Record{})
		checkNone(t, bytesOf(c.text)[1:])
	}
	for i := range known {
		ask(i)
	}
	for i := range known {
		ask(len(known) - 1 - i)
		ask(i * 7 % len(known))
	}
}

func TestP1402AskedAtOnce(t *testing.T) {
	var all sync.WaitGroup
	for start := range 8 {
		all.Go(func() {
			for i := range 200 {
				c := known[(start+i)%len(known)]
				b := Bytes(c.r)
				r, err := Read(b)
				if !Right(c.r) || !bytes.Equal(b, bytesOf(c.text)) || err != api.OK || !same(r, c.r) {
					t.Errorf("P1402: asked at once, %v is %x, and back %v, %d", c.r, b, r, err)
				}
			}
		})
	}
	all.Wait()
}
