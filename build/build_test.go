package build

import (
	"bytes"
	"math"
	"math/rand"
	"slices"
	"testing"

	"dumbwaiter/api"
	"dumbwaiter/desc"
	"dumbwaiter/seg"
	"dumbwaiter/serial"
)

// The limits, as the document's table has them.
const (
	maxSize = 32768
	maxSegs = 64
)

// The numbers of the errors and of the flags, as the chapters have them.
const (
	ok      = 0
	errArg  = 2
	errLong = 3

	next  = 1
	write = 2
	table = 4
	avail = 0x80
	used  = 0x8000
)

// place is a position and the size of a ring, valid or not.
type place struct {
	p    api.Pos
	size int
}

// bufferError tells by the words of the chapters which error a buffer has.
func bufferError(l []api.Seg) api.Errno {
	if len(l) > maxSegs {
		return errLong
	}
	total, written := uint64(0), false
	for _, s := range l {
		if s.Len == 0 || written && !s.Write || s.At > math.MaxUint64-uint64(s.Len)+1 {
			return errArg
		}
		total += uint64(s.Len)
		written = s.Write
	}
	if len(l) == 0 || total > math.MaxUint32 {
		return errArg
	}
	return ok
}

// splitError tells by the words of the chapter which error Split returns.
func splitError(ids []int, l []api.Seg) api.Errno {
	if e := bufferError(l); e != ok {
		return e
	}
	seen := map[int]int{}
	for _, id := range ids {
		seen[id]++
		if id < 0 || id > maxSize-1 {
			return errArg
		}
	}
	if len(ids) != len(l) || len(seen) != len(ids) {
		return errArg
	}
	return ok
}

// placeError tells by the words of the chapters which error a position and an ID have.
func placeError(p api.Pos, size, id int) api.Errno {
	if size < 1 || size > maxSize || p.At < 0 || p.At > size-1 || id < 0 || id > size-1 {
		return errArg
	}
	return ok
}

// packedError tells by the words of the chapter which error Packed returns.
func packedError(p api.Pos, size, id int, l []api.Seg) api.Errno {
	if e := bufferError(l); e != ok {
		return e
	}
	if placeError(p, size, id) != ok || len(l) > size {
		return errArg
	}
	return ok
}

// flagsOf is the flags of a descriptor for a segment, and whether there is one behind it.
func flagsOf(s api.Seg, last bool) uint16 {
	flags := uint16(0)
	if s.Write {
		flags = write
	}
	if !last {
		flags += next
	}
	return flags
}

// available is the flags by which a packed descriptor is available.
func available(wrap bool) uint16 {
	if wrap {
		return avail
	}
	return used
}

// splitChainOf is the split chain by the words of the chapter.
func splitChainOf(ids []int, l []api.Seg) []api.Put {
	var chain []api.Put
	for i, s := range l {
		d := api.Desc{Addr: s.At, Len: s.Len, Flags: flagsOf(s, i+1 == len(l))}
		if i+1 < len(l) {
			d.Next = uint16(ids[i+1])
		}
		chain = append(chain, api.Put{At: ids[i], Desc: d})
	}
	return chain
}

// packedChainOf is the packed chain by the words of the chapter.
func packedChainOf(p api.Pos, size, id int, l []api.Seg) []api.PutPacked {
	var chain []api.PutPacked
	for i, s := range l {
		flags := flagsOf(s, i+1 == len(l)) + available(p.Wrap)
		chain = append(chain, api.PutPacked{At: p.At, Desc: api.Packed{Addr: s.At, Len: s.Len, ID: uint16(id), Flags: flags}})
		p.At++
		if p.At == size {
			p = api.Pos{At: 0, Wrap: !p.Wrap}
		}
	}
	return chain
}

// laid is bytes with a number of n bytes behind them, the lowest first.
func laid(b []byte, n int, v uint64) []byte {
	for range n {
		b = append(b, byte(v))
		v >>= 8
	}
	return b
}

// splitTableOf is the bytes of an indirect table by the words of the chapters.
func splitTableOf(l []api.Seg) []byte {
	var b []byte
	for i, s := range l {
		last := i+1 == len(l)
		b = laid(laid(b, 8, s.At), 4, uint64(s.Len))
		b = laid(b, 2, uint64(flagsOf(s, last)))
		if last {
			b = laid(b, 2, 0)
		} else {
			b = laid(b, 2, uint64(i+1))
		}
	}
	return b
}

// packedTableOf is the bytes of a packed table by the words of the chapters.
func packedTableOf(l []api.Seg) []byte {
	var b []byte
	for _, s := range l {
		b = laid(laid(b, 8, s.At), 4, uint64(s.Len))
		b = laid(laid(b, 2, 0), 2, uint64(flagsOf(s, true)))
	}
	return b
}

// checkSplit compares Split with the words of the chapter.
func checkSplit(t *testing.T, ids []int, l []api.Seg) {
	t.Helper()
	got, e := Split(ids, l)
	want := splitError(ids, l)
	if e != want {
		t.Errorf("Split(%v, %v) = %v, %d, want error %d", ids, l, got, e, want)
		return
	}
	if e != ok && got != nil || e == ok && !slices.Equal(got, splitChainOf(ids, l)) {
		t.Errorf("Split(%v, %v) = %v, %d", ids, l, got, e)
	}
}

// checkPacked compares Packed with the words of the chapter.
func checkPacked(t *testing.T, p api.Pos, size, id int, l []api.Seg) {
	t.Helper()
	got, e := Packed(p, size, id, l)
	want := packedError(p, size, id, l)
	if e != want {
		t.Errorf("Packed(%v, %d, %d, %v) = %v, %d, want error %d", p, size, id, l, got, e, want)
		return
	}
	if e != ok && got != nil || e == ok && !slices.Equal(got, packedChainOf(p, size, id, l)) {
		t.Errorf("Packed(%v, %d, %d, %v) = %v, %d", p, size, id, l, got, e)
	}
}

// checkTables compares SplitTable, PackedTable and Needs with the words of the chapter.
func checkTables(t *testing.T, l []api.Seg) {
	t.Helper()
	want := bufferError(l)
	var split, packed []byte
	needs, one := 0, 0
	if want == ok {
		split, packed = splitTableOf(l), packedTableOf(l)
		needs, one = len(l), 1
	}
	if b, e := SplitTable(l); e != want || !bytes.Equal(b, split) || e != ok && b != nil {
		t.Errorf("SplitTable(%v) = % x, %d, want % x, %d", l, b, e, split, want)
	}
	if b, e := PackedTable(l); e != want || !bytes.Equal(b, packed) || e != ok && b != nil {
		t.Errorf("PackedTable(%v) = % x, %d, want % x, %d", l, b, e, packed, want)
	}
	if Needs(l, false) != needs || Needs(l, true) != one {
		t.Errorf("Needs(%v) = %d, %d, want %d, %d", l, Needs(l, false), Needs(l, true), needs, one)
	}
}

// checkOnes compares SplitOne and PackedOne with the words of the chapter.
func checkOnes(t *testing.T, p api.Pos, size, id int, at uint64, n int) {
	t.Helper()
	count := n >= 1 && n <= maxSegs
	split, want := api.Put{}, api.Errno(errArg)
	if count && id >= 0 && id < maxSize {
		split, want = api.Put{At: id, Desc: api.Desc{Addr: at, Len: uint32(16 * n), Flags: table}}, ok
	}
	if got, e := SplitOne(id, at, n); e != want || got != split {
		t.Errorf("SplitOne(%d, %d, %d) = %v, %d, want %v, %d", id, at, n, got, e, split, want)
	}
	packed, want := api.PutPacked{}, api.Errno(errArg)
	if count && placeError(p, size, id) == ok {
		d := api.Packed{Addr: at, Len: uint32(16 * n), ID: uint16(id), Flags: table + available(p.Wrap)}
		packed, want = api.PutPacked{At: p.At, Desc: d}, ok
	}
	if got, e := PackedOne(p, size, id, at, n); e != want || got != packed {
		t.Errorf("PackedOne(%v, %d, %d, %d, %d) = %v, %d, want %v, %d", p, size, id, at, n, got, e, packed, want)
	}
}

// bufferOf is a valid buffer of n segments, the last few of them written.
func bufferOf(n, written int) []api.Seg {
	var l []api.Seg
	for i := range n {
		l = append(l, api.Seg{At: uint64(1000 * i), Len: uint32(i + 1), Write: i >= n-written})
	}
	return l
}

// rising is the numbers from one on.
func rising(from, n int) []int {
	var l []int
	for i := range n {
		l = append(l, from+i)
	}
	return l
}

// buffers is lists of segments, valid or not.
func buffers() [][]api.Seg {
	read, written := api.Seg{At: 100, Len: 8}, api.Seg{At: 200, Len: 4, Write: true}
	l := [][]api.Seg{
		nil,
		{},
		{read},
		{written},
		{read, written},
		{written, read},
		{read, written, read},
		{read, read},
		{written, written},
		{{At: 100}},
		{{At: 100, Write: true}},
		{read, {At: 5}},
		{{At: math.MaxUint64, Len: 1}},
		{{At: math.MaxUint64, Len: 2}},
		{{At: math.MaxUint64 - 1, Len: 2, Write: true}},
		{{Len: math.MaxUint32}},
		{{Len: math.MaxUint32}, {Len: 1}},
		{{Len: math.MaxUint32 - 1}, {Len: 1, Write: true}},
		{{At: math.MaxUint64 - math.MaxUint32 + 1, Len: math.MaxUint32, Write: true}},
		{{At: math.MaxUint64 - math.MaxUint32 + 2, Len: math.MaxUint32, Write: true}},
		bufferOf(maxSegs, maxSegs+1),
	}
	for _, n := range []int{3, 4, 5, maxSegs - 1, maxSegs, maxSegs + 1, 2 * maxSegs} {
		l = append(l, bufferOf(n, 0), bufferOf(n, 1), bufferOf(n, n/2), bufferOf(n, n))
	}
	return l
}

// places is positions in rings, valid or not.
func places() []place {
	var l []place
	for _, size := range []int{math.MinInt, -1, 0, 1, 2, 3, 4, 5, maxSegs - 1, maxSegs, maxSegs + 1, maxSize - 1, maxSize, maxSize + 1, 1<<32 + 4, math.MaxInt} {
		for _, at := range []int{math.MinInt, -1, 0, 1, 3, size - 2, size - 1, size, math.MaxInt} {
			l = append(l, place{api.Pos{At: at}, size}, place{api.Pos{At: at, Wrap: true}, size})
		}
	}
	return l
}

// The numbers of api are those of the document.
func TestNumbers(t *testing.T) {
	if api.OK != ok || api.ErrArg != errArg || api.ErrLong != errLong || api.MaxSize != maxSize || api.MaxSegs != maxSegs {
		t.Error(api.OK, api.ErrArg, api.ErrLong, api.MaxSize, api.MaxSegs)
	}
	if api.FlagNext != next || api.FlagWrite != write || api.FlagTable != table || api.FlagAvail != avail || api.FlagUsed != used {
		t.Error(api.FlagNext, api.FlagWrite, api.FlagTable, api.FlagAvail, api.FlagUsed)
	}
}

// P9.1 and P9.2: the chapter's examples.
func TestExamples(t *testing.T) {
	l := []api.Seg{{At: 100, Len: 8}, {At: 200, Len: 4, Write: true}}
	p, e := Split([]int{3, 1}, l)
	if e != ok || !slices.Equal(p, []api.Put{
		{At: 3, Desc: api.Desc{Addr: 100, Len: 8, Flags: next, Next: 1}},
		{At: 1, Desc: api.Desc{Addr: 200, Len: 4, Flags: write, Next: 0}},
	}) {
		t.Error(p, e)
	}
	q, e := Packed(api.Pos{At: 3, Wrap: true}, 4, 2, l)
	if e != ok || !slices.Equal(q, []api.PutPacked{
		{At: 3, Desc: api.Packed{Addr: 100, Len: 8, ID: 2, Flags: 0x81}},
		{At: 0, Desc: api.Packed{Addr: 200, Len: 4, ID: 2, Flags: 0x8002}},
	}) {
		t.Error(q, e)
	}
}

// P9.1: Split of all short lists of numbers, with buffers of all kinds.
func TestSplit(t *testing.T) {
	lists := [][]int{nil}
	for from := 0; len(lists[from]) < 3; from++ {
		for _, id := range []int{-1, 0, 1, 2, maxSize - 1, maxSize} {
			lists = append(lists, append(slices.Clip(lists[from]), id))
		}
	}
	for _, l := range buffers() {
		for _, ids := range lists {
			checkSplit(t, ids, l)
		}
		for _, n := range []int{len(l) - 1, len(l), len(l) + 1, maxSegs, maxSegs + 1} {
			checkSplit(t, rising(0, n), l)
			checkSplit(t, rising(maxSize-n, n), l)
			checkSplit(t, rising(maxSize-n+1, n), l)
			checkSplit(t, rising(-1, n), l)
		}
	}
}

// P9.1: Split returns ErrArg if a number is out of range, or occurs twice, wherever it stands.
func TestSplitWrong(t *testing.T) {
	for n := 1; n <= maxSegs; n++ {
		l := bufferOf(n, n/3)
		for i := range n {
			for _, wrong := range []int{math.MinInt, -1, maxSize, 1 << 16, 1<<32 + 1, math.MaxInt, 900 - 1, 900 + n} {
				ids := rising(900, n)
				ids[i] = wrong
				checkSplit(t, ids, l)
			}
			for j := range n {
				ids := rising(900, n)
				ids[i] = ids[j]
				checkSplit(t, ids, l)
			}
		}
	}
}

// P9.1: ids that are many more than segments are an error, too.
func TestSplitMany(t *testing.T) {
	if p, e := Split(rising(0, maxSize), bufferOf(maxSegs, 3)); e != errArg || p != nil {
		t.Error(p, e)
	}
}

// P9.1 and P9.2: the tables of buffers of all kinds, and how many descriptors they need.
func TestTables(t *testing.T) {
	for _, l := range buffers() {
		checkTables(t, l)
	}
	for n := range maxSegs + 3 {
		for written := range n + 1 {
			checkTables(t, bufferOf(n, written))
		}
	}
}

// P9.1 and P9.2: the bytes of the tables of a buffer, written out.
func TestTableBytes(t *testing.T) {
	l := []api.Seg{{At: 0x1122334455667788, Len: 0xa1b2c3d4}, {At: 200, Len: 4, Write: true}}
	b, e := SplitTable(l)
	if want := []byte{
		0x88, 0x77, 0x66, 0x55, 0x44, 0x33, 0x22, 0x11, 0xd4, 0xc3, 0xb2, 0xa1, 1, 0, 1, 0,
		200, 0, 0, 0, 0, 0, 0, 0, 4, 0, 0, 0, 2, 0, 0, 0,
	}; e != ok || !bytes.Equal(b, want) {
		t.Errorf("% x, %d", b, e)
	}
	b, e = PackedTable(l)
	if want := []byte{
		0x88, 0x77, 0x66, 0x55, 0x44, 0x33, 0x22, 0x11, 0xd4, 0xc3, 0xb2, 0xa1, 0, 0, 0, 0,
		200, 0, 0, 0, 0, 0, 0, 0, 4, 0, 0, 0, 0, 0, 2, 0,
	}; e != ok || !bytes.Equal(b, want) {
		t.Errorf("% x, %d", b, e)
	}
}

// P9.2: Packed at places of all kinds, with all kinds of IDs and buffers.
func TestPacked(t *testing.T) {
	for _, c := range places() {
		for _, id := range []int{math.MinInt, -1, 0, 1, 2, c.size - 1, c.size, maxSize, 1 << 32, math.MaxInt} {
			for _, l := range buffers() {
				checkPacked(t, c.p, c.size, id, l)
			}
		}
	}
}

// P9.2: Packed in all small rings, from each position, with all buffers that fit or nearly do.
func TestPackedSmall(t *testing.T) {
	for size := 1; size <= 9; size++ {
		for at := range size {
			for id := range size + 1 {
				for n := range size + 2 {
					l := bufferOf(n, n/2)
					checkPacked(t, api.Pos{At: at}, size, id, l)
					checkPacked(t, api.Pos{At: at, Wrap: true}, size, id, l)
				}
			}
		}
	}
}

// P9.1 and P9.2: SplitOne and PackedOne at places of all kinds, for tables of all sizes.
func TestOnes(t *testing.T) {
	for _, c := range places() {
		for _, id := range []int{math.MinInt, -1, 0, 1, c.size - 1, c.size, maxSize - 1, maxSize, 1 << 16, 1 << 32, math.MaxInt} {
			for _, n := range []int{math.MinInt, -1, 0, 1, 2, maxSegs - 1, maxSegs, maxSegs + 1, 1<<28 + 1, 1<<32 + 1, math.MaxInt} {
				for _, at := range []uint64{0, 5, 1 << 32, math.MaxUint64} {
					checkOnes(t, c.p, c.size, id, at, n)
				}
			}
		}
	}
	for n := range maxSegs + 2 {
		checkOnes(t, api.Pos{At: 1}, 4, 3, 5, n)
	}
}

// P9.1 and P9.2: the errors of the buffer come before those of all else.
func TestErrors(t *testing.T) {
	long, empty := bufferOf(maxSegs+1, 0), []api.Seg{}
	for _, c := range []struct {
		l []api.Seg
		e api.Errno
	}{
		{long, errLong},
		{slices.Concat(long, []api.Seg{{}}), errLong},
		{slices.Concat(bufferOf(maxSegs, 1), bufferOf(1, 0)), errLong},
		{empty, errArg},
		{nil, errArg},
		{bufferOf(maxSegs, 0), errArg},
	} {
		for _, ids := range [][]int{nil, {-1}, {0, 0}, {maxSize}, rising(0, maxSegs-1)} {
			if p, e := Split(ids, c.l); e != c.e || p != nil {
				t.Errorf("Split(%v, %d segments) = %v, %d, want error %d", ids, len(c.l), p, e, c.e)
			}
		}
		for _, at := range []place{{api.Pos{}, 0}, {api.Pos{At: 4}, 4}, {api.Pos{At: -1}, 4}, {api.Pos{}, maxSegs - 1}, {api.Pos{}, maxSize + 1}} {
			for _, id := range []int{-1, 0, maxSize} {
				if p, e := Packed(at.p, at.size, id, c.l); e != c.e || p != nil {
					t.Errorf("Packed(%v, %d, %d, %d segments) = %v, %d, want error %d", at.p, at.size, id, len(c.l), p, e, c.e)
				}
			}
		}
	}
}

// randomBuffer is a buffer that is valid but for one in some.
func randomBuffer(r *rand.Rand) []api.Seg {
	n := r.Intn(12)
	if r.Intn(8) == 0 {
		n = r.Intn(maxSegs + 3)
	}
	written := r.Intn(n + 1)
	l := make([]api.Seg, n)
	for i := range l {
		l[i] = api.Seg{At: r.Uint64() >> r.Intn(64), Len: r.Uint32()>>(7+r.Intn(25)) + 1, Write: i >= written}
	}
	if n > 0 && r.Intn(10) == 0 {
		i := r.Intn(n)
		l[i].Write = !l[i].Write
		l[r.Intn(n)].Len = r.Uint32() >> r.Intn(32)
	}
	return l
}

// P9.1 and P9.2: all functions on random arguments.
func TestRandom(t *testing.T) {
	r := rand.New(rand.NewSource(9))
	good := 0
	for range 20000 {
		l := randomBuffer(r)
		if bufferError(l) == ok {
			good++
		}
		checkTables(t, l)
		ids := r.Perm(len(l) + 5)[:len(l)]
		for i := range ids {
			ids[i] += r.Intn(2) * 64 * r.Intn(511)
		}
		checkSplit(t, ids, l)
		size := len(l) + r.Intn(4)
		if r.Intn(4) == 0 {
			size = 1 + r.Intn(maxSize)
		}
		p := api.Pos{At: r.Intn(size + 1), Wrap: r.Intn(2) == 0}
		id := r.Intn(size + 1)
		checkPacked(t, p, size, id, l)
		checkOnes(t, p, size, id, r.Uint64(), r.Intn(maxSegs+2))
	}
	if good < 10000 {
		t.Errorf("only %d buffers are valid", good)
	}
}

// segOf is the segment that a descriptor tells of.
func segOf(addr uint64, n uint32, flags uint16) api.Seg {
	return api.Seg{At: addr, Len: n, Write: flags&write != 0}
}

// inTurn follows a chain, by the numbers that it tells, from the first on, as far as it is one.
func inTurn(first int, chain map[int]api.Desc) []api.Seg {
	var l []api.Seg
	for at, more := first, true; more; {
		d, there := chain[at]
		delete(chain, at)
		if !there || d.Flags&next == 0 && d.Next != 0 {
			return nil
		}
		l = append(l, segOf(d.Addr, d.Len, d.Flags))
		at, more = int(d.Next), d.Flags&next != 0
	}
	return l
}

// checkFollowed follows what was built for a buffer, in split rings.
func checkFollowed(t *testing.T, ids []int, l []api.Seg) {
	t.Helper()
	puts, e := Split(ids, l)
	chain := map[int]api.Desc{}
	for _, p := range puts {
		chain[p.At] = p.Desc
	}
	if e != ok || len(chain) != len(l) || !slices.Equal(inTurn(ids[0], chain), l) || len(chain) != 0 {
		t.Errorf("Split(%v, %v) = %v, %d", ids, l, puts, e)
	}
	b, _ := SplitTable(l)
	entries, e := desc.ReadTable(b)
	chain = map[int]api.Desc{}
	for i, d := range entries {
		chain[i] = d
	}
	if e != ok || len(chain) != len(l) || !slices.Equal(inTurn(0, chain), l) || len(chain) != 0 {
		t.Errorf("SplitTable(%v) = % x", l, b)
	}
}

// checkPlaced reads what was built for a buffer, in packed rings, one place after the other.
func checkPlaced(t *testing.T, p api.Pos, size, id int, l []api.Seg) {
	t.Helper()
	puts, e := Packed(p, size, id, l)
	var got []api.Seg
	seen := map[int]int{}
	for i, q := range puts {
		d := q.Desc
		at, _ := serial.Go(p, i, size)
		seen[q.At]++
		if q.At != at.At || !desc.Avail(d.Flags, at.Wrap) || int(d.ID) != id || (d.Flags&next != 0) != (i < len(puts)-1) {
			t.Errorf("Packed(%v, %d, %d, %v) = %v, %d", p, size, id, l, puts, e)
		}
		got = append(got, segOf(d.Addr, d.Len, d.Flags))
	}
	if e != ok || !slices.Equal(got, l) || len(seen) != len(l) {
		t.Errorf("Packed(%v, %d, %d, %v) = %v, %d", p, size, id, l, puts, e)
	}
	b, _ := PackedTable(l)
	got = nil
	for part := range slices.Chunk(b, 16) {
		d, _ := desc.ReadPacked(part)
		if d.ID != 0 || d.Flags&^write != 0 {
			t.Errorf("PackedTable(%v) = % x", l, b)
		}
		got = append(got, segOf(d.Addr, d.Len, d.Flags))
	}
	if !slices.Equal(got, l) {
		t.Errorf("PackedTable(%v) = % x", l, b)
	}
}

// P9.3: what was built has the segments of the buffer, in order, each once; only the last descriptor has no FlagNext.
func TestSegments(t *testing.T) {
	r := rand.New(rand.NewSource(93))
	for range 5000 {
		l := randomBuffer(r)
		if len(l) == 0 || seg.Check(l) != ok {
			continue
		}
		checkFollowed(t, r.Perm(maxSegs + 5)[:len(l)], l)
		size := len(l) + r.Intn(5)
		checkPlaced(t, api.Pos{At: r.Intn(size), Wrap: r.Intn(2) == 0}, size, r.Intn(size), l)
	}
	full := bufferOf(maxSegs, 7)
	checkFollowed(t, rising(maxSize-maxSegs, maxSegs), full)
	checkPlaced(t, api.Pos{At: maxSize - 1, Wrap: true}, maxSize, maxSize-1, full)
	checkPlaced(t, api.Pos{At: 63}, maxSegs, 63, full)
}

// P9.3: the descriptor of a table is as long as the table, and the only one that is needed.
func TestTableLength(t *testing.T) {
	for n := 1; n <= maxSegs; n++ {
		l := bufferOf(n, n/2)
		a, _ := SplitTable(l)
		b, _ := PackedTable(l)
		p, _ := SplitOne(1, 4096, n)
		q, _ := PackedOne(api.Pos{At: 1}, 2, 1, 4096, n)
		if len(a) != int(p.Desc.Len) || len(b) != int(q.Desc.Len) || Needs(l, true) != 1 {
			t.Errorf("%d entries: %d and %d bytes, not %d and %d", n, len(a), len(b), p.Desc.Len, q.Desc.Len)
		}
		chain, _ := Split(rising(0, n), l)
		if Needs(l, false) != len(chain) {
			t.Errorf("Needs(%v) = %d", l, Needs(l, false))
		}
	}
}

// wipe overwrites a list up to its capacity.
func wipe[T any](l []T, with T) {
	l = l[:cap(l)]
	for i := range l {
		l[i] = with
	}
}

// P9.1 and P9.2: nothing that was passed is changed or kept, and no two results share memory.
func TestMemory(t *testing.T) {
	ids := append(rising(7, 5), -3, -4)[:5:7]
	l := append(bufferOf(5, 2), api.Seg{At: 1}, api.Seg{At: 2})[:5:7]
	pos := api.Pos{At: 3, Wrap: true}
	a, _ := Split(ids, l)
	b, _ := Packed(pos, 6, 2, l)
	c, _ := SplitTable(l)
	d, _ := PackedTable(l)
	a2, _ := Split(ids, l)
	b2, _ := Packed(pos, 6, 2, l)
	c2, _ := SplitTable(l)
	d2, _ := PackedTable(l)
	wipe(a2, api.Put{At: -9})
	wipe(b2, api.PutPacked{At: -9})
	wipe(c2, 0xee)
	wipe(d2, 0xee)
	if !slices.Equal(ids, rising(7, 5)) || !slices.Equal(ids[5:7], []int{-3, -4}) {
		t.Error(ids[:7])
	}
	if !slices.Equal(l, bufferOf(5, 2)) || !slices.Equal(l[5:7], []api.Seg{{At: 1}, {At: 2}}) {
		t.Error(l[:7])
	}
	wipe(ids, -9)
	wipe(l, api.Seg{At: 9})
	l = bufferOf(5, 2)
	if !slices.Equal(a, splitChainOf(rising(7, 5), l)) || !slices.Equal(b, packedChainOf(pos, 6, 2, l)) {
		t.Error(a, b)
	}
	if !bytes.Equal(c, splitTableOf(l)) || !bytes.Equal(d, packedTableOf(l)) {
		t.Errorf("% x, % x", c, d)
	}
}

// P9.1 and P9.2: also beside an error nothing that was passed is changed.
func TestMemoryOfErrors(t *testing.T) {
	ids := append([]int{5, 5, 1}, -3)[:3:4]
	l := append([]api.Seg{{At: 1, Len: 1}, {At: 2, Write: true}, {At: 3, Len: 3}}, api.Seg{At: 4})[:3:4]
	Split(ids, l)
	Split(ids, bufferOf(3, 1))
	Packed(api.Pos{}, 2, 0, l)
	SplitTable(l)
	PackedTable(l)
	Needs(l, true)
	if !slices.Equal(ids[:4], []int{5, 5, 1, -3}) || !slices.Equal(l[:4], []api.Seg{{At: 1, Len: 1}, {At: 2, Write: true}, {At: 3, Len: 3}, {At: 4}}) {
		t.Error(ids[:4], l[:4])
	}
}
