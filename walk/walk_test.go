package walk

import (
	"bytes"
	"math"
	"math/rand"
	"slices"
	"testing"

	"dumbwaiter/api"
	"dumbwaiter/build"
	"dumbwaiter/desc"
	"dumbwaiter/gmem"
	"dumbwaiter/layout"
)

// The limits, as the document's table has them.
const (
	maxSize = 32768
	maxSegs = 64
)

// The numbers of the errors and of the flags, as the chapters have them.
const (
	ok       = 0
	errNil   = 1
	errArg   = 2
	errBad   = 4
	errRange = 5

	next  = 1
	write = 2
	table = 4
)

// told is what the words of the chapter tell of a chain.
type told struct {
	segs             []api.Seg
	id, count, reads int
	e                api.Errno
}

// view is the regions of a memory, and the bytes of all of them.
type view struct {
	regions []api.Region
	image   []byte
}

func viewOf(m *gmem.Mem) view { return view{m.Regions(), m.Image()} }

// bytes tells whether a range of bytes exists, and which these are.
func (v view) bytes(at, n uint64) ([]byte, bool) {
	from := uint64(0)
	for _, r := range v.regions {
		if n > 0 && at >= r.At && at-r.At < r.Len && n <= r.Len-(at-r.At) {
			return v.image[from+at-r.At:][:n], true
		}
		from += r.Len
	}
	return nil, false
}

// number is a word, its lowest byte first.
func number(b []byte) uint64 {
	v := uint64(0)
	for _, x := range slices.Backward(b) {
		v = v<<8 + uint64(x)
	}
	return v
}

// found is a descriptor, split or packed, by the words of chapter 3.
type found struct {
	addr, size    uint64
	third, fourth int
	next, table   bool
	seg           api.Seg
}

func foundOf(b []byte, packed bool) found {
	d := found{addr: number(b[:8]), size: number(b[8:12]), third: int(number(b[12:14])), fourth: int(number(b[14:]))}
	flags := d.third
	if packed {
		flags = d.fourth
	}
	d.next, d.table = flags%2 == 1, flags/4%2 == 1
	d.seg = api.Seg{At: d.addr, Len: uint32(d.size), Write: flags/2%2 == 1}
	return d
}

// ended tells what becomes of a chain all of whose descriptors were read, by the words of chapters 5 and 10.
func (v view) ended(x told) told {
	written, total := false, uint64(0)
	for _, s := range x.segs {
		if s.Len == 0 || s.At > math.MaxUint64-uint64(s.Len)+1 || written && !s.Write {
			x.e = errBad
		}
		written = s.Write
		total += uint64(s.Len)
	}
	if len(x.segs) == 0 || len(x.segs) > maxSegs || total > math.MaxUint32 {
		x.e = errBad
	}
	for _, s := range x.segs {
		if _, there := v.bytes(s.At, uint64(s.Len)); !there && x.e == ok {
			x.e = errRange
		}
	}
	return x
}

// badTable tells whether no table can have that many bytes.
func badTable(n uint64) bool { return n%16 != 0 || n/16 < 1 || n/16 > maxSegs }

// split tells by the words of the chapter what is read of a split chain.
func (v view) split(at uint64, size, head int, tables bool) told {
	var x told
	fail := func(e api.Errno) told { return told{reads: x.reads, e: e} }
	turned := map[int]int{}
	inTable := false
	for i := head; ; {
		turned[i]++
		if turned[i] > 1 || i < 0 || i > size-1 {
			return fail(errBad)
		}
		b, there := v.bytes(at+16*uint64(i), 16)
		if !there {
			return fail(errRange)
		}
		x.reads++
		d := foundOf(b, false)
		if d.table {
			if !tables || inTable || d.next || badTable(d.size) {
				return fail(errBad)
			}
			if _, there := v.bytes(d.addr, d.size); !there {
				return fail(errRange)
			}
			at, size, i = d.addr, int(d.size/16), 0
			turned, inTable = map[int]int{}, true
			continue
		}
		x.segs = append(x.segs, d.seg)
		if !d.next {
			return v.ended(x)
		}
		i = d.fourth
	}
}

// packed tells by the words of the chapter what is read of a packed chain.
func (v view) packed(at uint64, size, from int, tables bool) told {
	var x told
	fail := func(e api.Errno) told { return told{e: e} }
	for more := true; more; x.count++ {
		if x.count == size {
			return fail(errBad)
		}
		b, there := v.bytes(at+16*uint64((from+x.count)%size), 16)
		if !there {
			return fail(errRange)
		}
		d := foundOf(b, true)
		x.id, more = d.third, d.next
		if !d.table {
			x.segs = append(x.segs, d.seg)
			continue
		}
		if !tables || d.next || x.count > 0 || badTable(d.size) {
			return fail(errBad)
		}
		entries, there := v.bytes(d.addr, d.size)
		if !there {
			return fail(errRange)
		}
		for b := range slices.Chunk(entries, 16) {
			d := foundOf(b, true)
			if d.table {
				return fail(errBad)
			}
			x.segs = append(x.segs, d.seg)
		}
	}
	if x.id > size-1 {
		return fail(errBad)
	}
	return v.ended(x)
}

// checkSplit compares Split and Reads with the words of the chapter, where the rings are valid, and returns the error.
func checkSplit(t *testing.T, m *gmem.Mem, r api.Rings, head int, tables bool) api.Errno {
	t.Helper()
	v := viewOf(m)
	want := v.split(r.Desc, r.Size, head, tables)
	if want.e != ok {
		want.segs = nil
	}
	l, e := Split(m, r, head, tables)
	if e != want.e || !slices.Equal(l, want.segs) || e != ok && l != nil {
		t.Errorf("Split(%v, %d, %t) = %v, %d, want %v, %d", r, head, tables, l, e, want.segs, want.e)
	}
	if n := Reads(m, r, head, tables); n != want.reads || n > r.Size+maxSegs {
		t.Errorf("Reads(%v, %d, %t) = %d, want %d", r, head, tables, n, want.reads)
	}
	if !bytes.Equal(m.Image(), v.image) {
		t.Errorf("Split or Reads (%v, %d, %t) wrote", r, head, tables)
	}
	return e
}

// checkPacked compares Packed with the words of the chapter, where the rings are valid, and returns the error.
func checkPacked(t *testing.T, m *gmem.Mem, r api.Rings, p api.Pos, tables bool) api.Errno {
	t.Helper()
	v := viewOf(m)
	want := v.packed(r.Desc, r.Size, p.At, tables)
	if want.e != ok {
		want = told{e: want.e}
	}
	x, e := Packed(m, r, p, tables)
	if e != want.e || x.ID != want.id || x.Count != want.count || !slices.Equal(x.Segs, want.segs) || e != ok && x.Segs != nil {
		t.Errorf("Packed(%v, %v, %t) = %v, %d, want %v", r, p, tables, x, e, want)
	}
	if !bytes.Equal(m.Image(), v.image) {
		t.Errorf("Packed(%v, %v, %t) wrote", r, p, tables)
	}
	return e
}

// memory is a memory with these regions, each from an address on, with a number of bytes.
func memory(t *testing.T, regions ...[2]uint64) *gmem.Mem {
	t.Helper()
	var l []api.Region
	for _, r := range regions {
		l = append(l, api.Region{At: r[0], Len: r[1]})
	}
	m, e := gmem.New(l)
	if e != ok {
		t.Fatal(regions, e)
	}
	return m
}

// rings is rings that follow each other from an address on.
func rings(t *testing.T, packed bool, size int, base uint64) api.Rings {
	t.Helper()
	r, _, e := layout.Place(packed, size, base)
	if e != ok {
		t.Fatal(packed, size, base, e)
	}
	return r
}

// lay lays split descriptors one behind the other.
func lay(t *testing.T, m *gmem.Mem, at uint64, l ...api.Desc) {
	t.Helper()
	if e := m.Write(at, desc.Table(l)); e != ok {
		t.Fatal(at, e)
	}
}

// layPacked lays packed descriptors one behind the other.
func layPacked(t *testing.T, m *gmem.Mem, at uint64, l ...api.Packed) {
	t.Helper()
	for i, d := range l {
		if e := m.Write(at+16*uint64(i), desc.PackedBytes(d)); e != ok {
			t.Fatal(at, e)
		}
	}
}

// wantSplit asks for what Split and Reads return.
func wantSplit(t *testing.T, m *gmem.Mem, r api.Rings, head int, tables bool, want []api.Seg, we api.Errno, reads int) {
	t.Helper()
	if l, e := Split(m, r, head, tables); e != we || !slices.Equal(l, want) || e != ok && l != nil {
		t.Errorf("Split(%v, %d, %t) = %v, %d, want %v, %d", r, head, tables, l, e, want, we)
	}
	if n := Reads(m, r, head, tables); n != reads {
		t.Errorf("Reads(%v, %d, %t) = %d, want %d", r, head, tables, n, reads)
	}
}

// wantPacked asks for what Packed returns.
func wantPacked(t *testing.T, m *gmem.Mem, r api.Rings, at int, tables bool, want api.Taken, we api.Errno) {
	t.Helper()
	for _, wrap := range []bool{false, true} {
		x, e := Packed(m, r, api.Pos{At: at, Wrap: wrap}, tables)
		if e != we || x.ID != want.ID || x.Count != want.Count || !slices.Equal(x.Segs, want.Segs) || e != ok && x.Segs != nil {
			t.Errorf("Packed(%v, %d %t, %t) = %v, %d, want %v, %d", r, at, wrap, tables, x, e, want, we)
		}
	}
}

// The numbers of api are those of the document.
func TestNumbers(t *testing.T) {
	if api.OK != ok || api.ErrNil != errNil || api.ErrArg != errArg || api.ErrBad != errBad || api.ErrRange != errRange {
		t.Error(api.OK, api.ErrNil, api.ErrArg, api.ErrBad, api.ErrRange)
	}
	if api.FlagNext != next || api.FlagWrite != write || api.FlagTable != table || api.MaxSize != maxSize || api.MaxSegs != maxSegs {
		t.Error(api.FlagNext, api.FlagWrite, api.FlagTable, api.MaxSize, api.MaxSegs)
	}
}

// P10.1: the chapter's examples.
func TestExamples(t *testing.T) {
	m := memory(t, [2]uint64{0, 1000})
	r := rings(t, false, 4, 0)
	lay(t, m, 0, api.Desc{Addr: 200, Len: 4, Flags: next, Next: 0})
	wantSplit(t, m, r, 0, false, nil, errBad, 1)
	lay(t, m, 0, api.Desc{Addr: 200, Len: 4}, api.Desc{Addr: 900, Len: 200})
	wantSplit(t, m, r, 0, false, []api.Seg{{At: 200, Len: 4}}, ok, 1)
	wantSplit(t, m, r, 1, false, nil, errRange, 1)
}

// P10.1 and P10.2: chains of a split ring, from each head on.
func TestSplit(t *testing.T) {
	m := memory(t, [2]uint64{0, 4096})
	r := rings(t, false, 4, 64)
	lay(t, m, 64,
		api.Desc{Addr: 1000, Len: 5, Flags: write, Next: 3},
		api.Desc{Addr: 2000, Len: 6, Flags: next, Next: 0},
		api.Desc{Addr: 0, Len: 4096, Flags: next, Next: 1},
		api.Desc{Addr: 2000, Len: 6, Flags: next | write, Next: 4},
	)
	a, b, c := api.Seg{Len: 4096}, api.Seg{At: 2000, Len: 6}, api.Seg{At: 1000, Len: 5, Write: true}
	for _, tables := range []bool{false, true} {
		wantSplit(t, m, r, 2, tables, []api.Seg{a, b, c}, ok, 3)
		wantSplit(t, m, r, 1, tables, []api.Seg{b, c}, ok, 2)
		wantSplit(t, m, r, 0, tables, []api.Seg{c}, ok, 1)
		wantSplit(t, m, r, 3, tables, nil, errBad, 1)
		for _, head := range []int{math.MinInt, -1 << 16, -1, 4, 5, 1 << 16, 1 << 32, math.MaxInt} {
			wantSplit(t, m, r, head, tables, nil, errBad, 0)
		}
	}
}

// P10.1 and P10.2: single descriptors of a split ring, with the errors that they have, where the memory has 1,000 bytes.
func TestSplitOnes(t *testing.T) {
	for _, c := range []struct {
		d             api.Desc
		e, withTables api.Errno
	}{
		{api.Desc{Addr: 0, Len: 1000}, ok, ok},
		{api.Desc{Addr: 0, Len: 1001}, errRange, errRange},
		{api.Desc{Addr: 999, Len: 1, Flags: write}, ok, ok},
		{api.Desc{Addr: 1000, Len: 1, Flags: write}, errRange, errRange},
		{api.Desc{Addr: 200, Len: 0}, errBad, errBad},
		{api.Desc{Addr: 5000, Len: 0}, errBad, errBad},
		{api.Desc{Addr: math.MaxUint64, Len: 1}, errRange, errRange},
		{api.Desc{Addr: math.MaxUint64, Len: 2}, errBad, errBad},
		{api.Desc{Addr: 0, Len: math.MaxUint32}, errRange, errRange},
		{api.Desc{Addr: 200, Len: 4, Next: 9}, ok, ok},
		{api.Desc{Addr: 200, Len: 4, Flags: 0xfff8}, ok, ok},
		{api.Desc{Addr: 200, Len: 4, Flags: next, Next: 2}, errBad, errBad},
		{api.Desc{Addr: 200, Len: 4, Flags: next, Next: 4}, errBad, errBad},
		{api.Desc{Addr: 200, Len: 4, Flags: next, Next: 65535}, errBad, errBad},
		{api.Desc{Addr: 5000, Len: 4, Flags: next, Next: 2}, errBad, errBad},
		{api.Desc{Addr: 5000, Len: 0, Flags: next, Next: 4}, errBad, errBad},
		{api.Desc{Addr: 200, Len: 0, Flags: table}, errBad, errBad},
		{api.Desc{Addr: 200, Len: 15, Flags: table}, errBad, errBad},
		{api.Desc{Addr: 200, Len: 17, Flags: table}, errBad, errBad},
		{api.Desc{Addr: 200, Len: 16, Flags: table | next, Next: 1}, errBad, errBad},
		{api.Desc{Addr: 5000, Len: 16, Flags: table | next, Next: 1}, errBad, errBad},
		{api.Desc{Addr: 5000, Len: 16, Flags: table}, errBad, errRange},
		{api.Desc{Addr: 985, Len: 16, Flags: table}, errBad, errRange},
		{api.Desc{Addr: 5000, Len: 16 * maxSegs, Flags: table}, errBad, errRange},
		{api.Desc{Addr: 5000, Len: 16 * (maxSegs + 1), Flags: table}, errBad, errBad},
		{api.Desc{Addr: 5000, Len: 1 << 31, Flags: table}, errBad, errBad},
		{api.Desc{Addr: 5000, Len: 1<<32 - 16, Flags: table}, errBad, errBad},
		{api.Desc{Addr: math.MaxUint64 - 7, Len: 16, Flags: table}, errBad, errRange},
	} {
		m := memory(t, [2]uint64{0, 1000})
		r := rings(t, false, 4, 0)
		lay(t, m, 32, c.d)
		wantSplit(t, m, r, 2, false, nilUnless(c.e, c.d), c.e, 1)
		wantSplit(t, m, r, 2, true, nilUnless(c.withTables, c.d), c.withTables, 1)
	}
}

// nilUnless is the buffer of one descriptor, if there is no error.
func nilUnless(e api.Errno, d api.Desc) []api.Seg {
	if e != ok {
		return nil
	}
	return []api.Seg{{At: d.Addr, Len: d.Len, Write: d.Flags&write != 0}}
}

// P10.1 and P10.2: a table is the last of its chain, and read from 0 on, by its own numbers.
func TestSplitTable(t *testing.T) {
	m := memory(t, [2]uint64{0, 4096})
	r := rings(t, false, 2, 0)
	lay(t, m, 0, api.Desc{Addr: 100, Len: 4, Flags: next, Next: 1}, api.Desc{Addr: 1001, Len: 5 * 16, Flags: table | write, Next: 7})
	lay(t, m, 1001,
		api.Desc{Addr: 200, Len: 5, Flags: next, Next: 4},
		api.Desc{Addr: 200, Len: 5, Flags: table},
		api.Desc{Addr: 300, Len: 6, Flags: write, Next: 1},
		api.Desc{Addr: 9000, Len: 0, Flags: next, Next: 9},
		api.Desc{Addr: 100, Len: 7, Flags: next, Next: 2},
	)
	first, l := api.Seg{At: 100, Len: 4}, []api.Seg{{At: 200, Len: 5}, {At: 100, Len: 7}, {At: 300, Len: 6, Write: true}}
	wantSplit(t, m, r, 0, true, append([]api.Seg{first}, l...), ok, 5)
	wantSplit(t, m, r, 1, true, l, ok, 4)
	wantSplit(t, m, r, 0, false, nil, errBad, 2)
	wantSplit(t, m, r, 1, false, nil, errBad, 1)
	entry := func(i int, d api.Desc) { lay(t, m, 1001+16*uint64(i), d) }
	for _, c := range []struct {
		d     api.Desc
		e     api.Errno
		reads int
	}{
		{api.Desc{Addr: 300, Len: 6, Flags: next, Next: 0}, errBad, 4},
		{api.Desc{Addr: 300, Len: 6, Flags: next, Next: 2}, errBad, 4},
		{api.Desc{Addr: 300, Len: 6, Flags: next, Next: 5}, errBad, 4},
		{api.Desc{Addr: 300, Len: 6, Flags: next, Next: 65535}, errBad, 4},
		{api.Desc{Addr: 300, Len: 6, Flags: next, Next: 1}, errBad, 5},
		{api.Desc{Addr: 300, Len: 6, Flags: next, Next: 3}, errBad, 5},
		{api.Desc{Addr: 2000, Len: 16, Flags: table}, errBad, 4},
		{api.Desc{Addr: 300, Len: 0}, errBad, 4},
		{api.Desc{Addr: 4095, Len: 2}, errRange, 4},
	} {
		entry(2, c.d)
		wantSplit(t, m, r, 1, true, nil, c.e, c.reads)
	}
	entry(0, api.Desc{Addr: 200, Len: 5, Flags: next, Next: 0})
	wantSplit(t, m, r, 1, true, nil, errBad, 2)
	entry(0, api.Desc{Addr: 200, Len: 16, Flags: table})
	wantSplit(t, m, r, 0, true, nil, errBad, 3)
}

// P10.1 and P10.2: the numbers of a table are not those of the ring, also where both have the same bytes.
func TestTableOverRing(t *testing.T) {
	m := memory(t, [2]uint64{0, 1000})
	r := rings(t, false, 4, 0)
	lay(t, m, 0,
		api.Desc{},
		api.Desc{Addr: 32, Len: 32, Flags: table},
		api.Desc{Addr: 200, Len: 4, Flags: next, Next: 1},
		api.Desc{Addr: 300, Len: 4},
	)
	wantSplit(t, m, r, 2, true, []api.Seg{{At: 200, Len: 4}, {At: 200, Len: 4}, {At: 300, Len: 4}}, ok, 4)
}

// P10.1 and P10.2: of a malformed descriptor and one that does not exist the first counts; segments count after both.
func TestSplitFirst(t *testing.T) {
	// Of a ring of 8 at 0 the memory has the descriptors 0 to 3, and half of 4.
	m := memory(t, [2]uint64{0, 72}, [2]uint64{1000, 1000})
	r := rings(t, false, 8, 0)
	lay(t, m, 0,
		api.Desc{Addr: 1000, Len: 4, Flags: next, Next: 5},
		api.Desc{Addr: 9000, Len: 0, Flags: next, Next: 4},
		api.Desc{Addr: 9000, Len: 4, Flags: next, Next: 3},
		api.Desc{Addr: 1100, Len: 0, Flags: write},
	)
	wantSplit(t, m, r, 0, true, nil, errRange, 1)
	wantSplit(t, m, r, 1, true, nil, errRange, 1)
	wantSplit(t, m, r, 2, true, nil, errBad, 2)
	wantSplit(t, m, r, 4, true, nil, errRange, 0)
	wantSplit(t, m, r, 7, true, nil, errRange, 0)
	wantSplit(t, m, r, 8, true, nil, errBad, 0)
	lay(t, m, 48, api.Desc{Addr: 1990, Len: 16, Flags: table})
	wantSplit(t, m, r, 2, true, nil, errRange, 2)
	wantSplit(t, m, r, 2, false, nil, errBad, 2)
	lay(t, m, 48, api.Desc{Addr: 1984, Len: 16, Flags: table})
	lay(t, m, 1984, api.Desc{Addr: 1100, Len: 4, Flags: write})
	wantSplit(t, m, r, 2, true, nil, errRange, 3)
	lay(t, m, 1984, api.Desc{Addr: 1100, Len: 4, Flags: table})
	wantSplit(t, m, r, 2, true, nil, errBad, 3)
	// A written segment before a read one, neither of which exists.
	lay(t, m, 0, api.Desc{Addr: 9000, Len: 4, Flags: next | write, Next: 1}, api.Desc{Addr: 9000, Len: 4})
	wantSplit(t, m, r, 0, true, nil, errBad, 2)
}

// P10.1: whether all bytes of a table exist is checked before its descriptors.
func TestTableExists(t *testing.T) {
	m := memory(t, [2]uint64{0, 1000})
	r := rings(t, false, 4, 0)
	lay(t, m, 0, api.Desc{Addr: 976, Len: 32, Flags: table}, api.Desc{Addr: 976, Len: 16, Flags: table})
	lay(t, m, 976, api.Desc{Addr: 200, Len: 4, Flags: next, Next: 0})
	wantSplit(t, m, r, 0, true, nil, errRange, 1)
	wantSplit(t, m, r, 1, true, nil, errBad, 2)
	lay(t, m, 976, api.Desc{Addr: 200, Len: 4})
	wantSplit(t, m, r, 0, true, nil, errRange, 1)
	wantSplit(t, m, r, 1, true, []api.Seg{{At: 200, Len: 4}}, ok, 2)

	p := rings(t, true, 4, 0)
	layPacked(t, m, 0, api.Packed{Addr: 976, Len: 32, Flags: table}, api.Packed{Addr: 976, Len: 16, Flags: table})
	layPacked(t, m, 976, api.Packed{Addr: 200, Len: 4, Flags: table})
	wantPacked(t, m, p, 0, true, api.Taken{}, errRange)
	wantPacked(t, m, p, 1, true, api.Taken{}, errBad)
	layPacked(t, m, 976, api.Packed{Addr: 200, Len: 4})
	wantPacked(t, m, p, 0, true, api.Taken{}, errRange)
	wantPacked(t, m, p, 1, true, api.Taken{Count: 1, Segs: []api.Seg{{At: 200, Len: 4}}}, ok)
}

// P10.1: nothing that is read, and no segment, extends from one region into the next.
func TestRegions(t *testing.T) {
	m := memory(t, [2]uint64{0, 40}, [2]uint64{40, 960}, [2]uint64{1000, 1000})
	r := rings(t, false, 4, 0)
	p := rings(t, true, 4, 0)
	put := func(i uint64, at uint64, n uint32, flags uint16) {
		lay(t, m, 16*i, api.Desc{Addr: at, Len: n, Flags: flags})
	}
	putPacked := func(i uint64, at uint64, n uint32, flags uint16) {
		layPacked(t, m, 16*i, api.Packed{Addr: at, Len: n, Flags: flags})
	}
	wantSplit(t, m, r, 2, true, nil, errRange, 0)
	wantPacked(t, m, p, 2, true, api.Taken{}, errRange)
	for _, c := range []struct {
		at    uint64
		n     uint32
		flags uint16
		e     api.Errno
	}{
		{992, 8, 0, ok}, {992, 9, 0, errRange}, {1000, 9, 0, ok}, {999, 2, write, errRange},
		{984, 16, table, ok}, {985, 16, table, errRange}, {984, 32, table, errRange}, {1000, 16, table, ok},
	} {
		lay(t, m, 984, api.Desc{Addr: 500, Len: 8})
		lay(t, m, 1000, api.Desc{Addr: 500, Len: 8})
		put(0, c.at, c.n, c.flags)
		if e := checkSplit(t, m, r, 0, true); e != c.e {
			t.Errorf("%v: error %d", c, e)
		}
		putPacked(0, c.at, c.n, c.flags)
		if e := checkPacked(t, m, p, api.Pos{}, true); e != c.e {
			t.Errorf("%v, packed: error %d", c, e)
		}
	}
}

// P10.1: chains of a packed ring, from each position on.
func TestPacked(t *testing.T) {
	m := memory(t, [2]uint64{0, 4096})
	r := rings(t, true, 5, 64)
	layPacked(t, m, 64,
		api.Packed{Addr: 1000, Len: 5, ID: 4, Flags: 0x8082},
		api.Packed{Addr: 1100, Len: 6, ID: 5, Flags: 0x80},
		api.Packed{Addr: 1200, Len: 7, ID: 9, Flags: next},
		api.Packed{Addr: 0, Len: 4096, ID: 8, Flags: next | write},
		api.Packed{Addr: 1000, Len: 8, ID: 65535, Flags: 0xfff8 | next | write},
	)
	l := []api.Seg{{At: 1200, Len: 7}, {Len: 4096, Write: true}, {At: 1000, Len: 8, Write: true}, {At: 1000, Len: 5, Write: true}}
	for _, tables := range []bool{false, true} {
		wantPacked(t, m, r, 2, tables, api.Taken{ID: 4, Count: 4, Segs: l}, ok)
		wantPacked(t, m, r, 3, tables, api.Taken{ID: 4, Count: 3, Segs: l[1:]}, ok)
		wantPacked(t, m, r, 4, tables, api.Taken{ID: 4, Count: 2, Segs: l[2:]}, ok)
		wantPacked(t, m, r, 0, tables, api.Taken{ID: 4, Count: 1, Segs: l[3:]}, ok)
		wantPacked(t, m, r, 1, tables, api.Taken{}, errBad)
		for _, at := range []int{math.MinInt, -1, 5, 6, 1 << 16, 1 << 32, math.MaxInt} {
			wantPacked(t, m, r, at, tables, api.Taken{}, errArg)
		}
	}
}

// P10.1: as many descriptors as the ring has are a chain, one more is not.
func TestPackedRound(t *testing.T) {
	for _, size := range []int{1, 2, 3, 5, maxSegs - 1, maxSegs, maxSegs + 1} {
		m := memory(t, [2]uint64{0, 4096})
		r := rings(t, true, size, 0)
		for last := range size {
			for i := range size {
				flags := uint16(next)
				if i == last {
					flags = 0
				}
				layPacked(t, m, 16*uint64(i), api.Packed{Addr: uint64(2000 + i), Len: 1, Flags: flags})
			}
			e := checkPacked(t, m, r, api.Pos{At: (last + 1) % size}, false)
			if size <= maxSegs && e != ok || size > maxSegs && e != errBad {
				t.Errorf("%d descriptors: error %d", size, e)
			}
			layPacked(t, m, 16*uint64(last), api.Packed{Addr: 2000, Len: 1, Flags: next})
			wantPacked(t, m, r, last, true, api.Taken{}, errBad)
		}
	}
}

// P10.1: single descriptors of a packed ring, with the errors that they have, where the memory has 1,000 bytes.
func TestPackedOnes(t *testing.T) {
	for _, c := range []struct {
		d             api.Packed
		e, withTables api.Errno
	}{
		{api.Packed{Addr: 0, Len: 1000, ID: 3}, ok, ok},
		{api.Packed{Addr: 0, Len: 1000, ID: 4}, errBad, errBad},
		{api.Packed{Addr: 0, Len: 1000, ID: 65535}, errBad, errBad},
		{api.Packed{Addr: 0, Len: 1001, ID: 3}, errRange, errRange},
		{api.Packed{Addr: 0, Len: 1001, ID: 4}, errBad, errBad},
		{api.Packed{Addr: 1000, Len: 1, Flags: write}, errRange, errRange},
		{api.Packed{Addr: 200, Len: 0}, errBad, errBad},
		{api.Packed{Addr: 5000, Len: 0}, errBad, errBad},
		{api.Packed{Addr: math.MaxUint64, Len: 1}, errRange, errRange},
		{api.Packed{Addr: math.MaxUint64, Len: 2}, errBad, errBad},
		{api.Packed{Addr: 200, Len: 0, Flags: table}, errBad, errBad},
		{api.Packed{Addr: 200, Len: 24, Flags: table}, errBad, errBad},
		{api.Packed{Addr: 5000, Len: 24, Flags: table}, errBad, errBad},
		{api.Packed{Addr: 5000, Len: 16, Flags: table | next}, errBad, errBad},
		{api.Packed{Addr: 5000, Len: 16, Flags: table}, errBad, errRange},
		{api.Packed{Addr: 5000, Len: 16, ID: 4, Flags: table}, errBad, errRange},
		{api.Packed{Addr: 5000, Len: 16 * maxSegs, Flags: table | write}, errBad, errRange},
		{api.Packed{Addr: 5000, Len: 16 * (maxSegs + 1), Flags: table}, errBad, errBad},
		{api.Packed{Addr: 5000, Len: 1<<32 - 16, Flags: table}, errBad, errBad},
	} {
		m := memory(t, [2]uint64{0, 1000})
		r := rings(t, true, 4, 0)
		layPacked(t, m, 32, c.d)
		for _, tables := range []bool{false, true} {
			e := c.e
			if tables {
				e = c.withTables
			}
			want := api.Taken{}
			if e == ok {
				want = api.Taken{ID: int(c.d.ID), Count: 1, Segs: []api.Seg{{At: c.d.Addr, Len: c.d.Len, Write: c.d.Flags&write != 0}}}
			}
			wantPacked(t, m, r, 2, tables, want, e)
		}
	}
}

// P10.1: a table is alone in its chain; all of its entries are read, whatever they tell of a next one, or of an ID.
func TestPackedTable(t *testing.T) {
	m := memory(t, [2]uint64{0, 4096})
	r := rings(t, true, 3, 0)
	one := api.Packed{Addr: 1001, Len: 48, ID: 2, Flags: table | write}
	layPacked(t, m, 0, one, api.Packed{Addr: 100, Len: 4, Flags: next}, one)
	layPacked(t, m, 1001,
		api.Packed{Addr: 100, Len: 4, ID: 900},
		api.Packed{Addr: 200, Len: 5, ID: 1, Flags: next | write},
		api.Packed{Addr: 300, Len: 6, Flags: next | write | 0x8080},
	)
	l := []api.Seg{{At: 100, Len: 4}, {At: 200, Len: 5, Write: true}, {At: 300, Len: 6, Write: true}}
	for _, at := range []int{0, 2} {
		wantPacked(t, m, r, at, true, api.Taken{ID: 2, Count: 1, Segs: l}, ok)
		wantPacked(t, m, r, at, false, api.Taken{}, errBad)
	}
	// Behind another descriptor, or before one.
	wantPacked(t, m, r, 1, true, api.Taken{}, errBad)
	one.Flags |= next
	layPacked(t, m, 0, one)
	wantPacked(t, m, r, 0, true, api.Taken{}, errBad)
	for i := range uint64(3) {
		b, _ := m.Read(1001+16*i, 16)
		for _, c := range []struct {
			d api.Packed
			e api.Errno
		}{
			{api.Packed{Addr: 100, Len: 4, Flags: table | write}, errBad},
			{api.Packed{Addr: 100, Flags: write}, errBad},
			{api.Packed{Addr: 4096, Len: 1, Flags: write}, errRange},
			{api.Packed{Addr: 4096, Len: 1}, []api.Errno{errRange, errRange, errBad}[i]},
		} {
			layPacked(t, m, 1001+16*i, c.d)
			wantPacked(t, m, r, 2, true, api.Taken{}, c.e)
		}
		m.Write(1001+16*i, b)
	}
}

// P10.1: of what is wrong with a packed chain the first counts: descriptors and tables, then the ID, then the segments.
func TestPackedFirst(t *testing.T) {
	// Of a ring of 5 at 0 the memory has the descriptors 0 to 2, and half of 3.
	m := memory(t, [2]uint64{0, 56}, [2]uint64{1000, 1000})
	r := rings(t, true, 5, 0)
	layPacked(t, m, 0,
		api.Packed{Addr: 9000, Len: 0, ID: 9, Flags: next},
		api.Packed{Addr: 9000, Len: 4, ID: 5, Flags: 0},
		api.Packed{Addr: 9000, Len: 4, ID: 5, Flags: next},
	)
	wantPacked(t, m, r, 0, true, api.Taken{}, errBad)
	wantPacked(t, m, r, 1, true, api.Taken{}, errBad)
	wantPacked(t, m, r, 2, true, api.Taken{}, errRange)
	wantPacked(t, m, r, 3, true, api.Taken{}, errRange)
	wantPacked(t, m, r, 4, true, api.Taken{}, errRange)
	layPacked(t, m, 16, api.Packed{Addr: 9000, Len: 4, ID: 4})
	wantPacked(t, m, r, 0, true, api.Taken{}, errBad)
	wantPacked(t, m, r, 1, true, api.Taken{}, errRange)
	layPacked(t, m, 16, api.Packed{Addr: 9000, Len: 16, ID: 5, Flags: table})
	wantPacked(t, m, r, 1, true, api.Taken{}, errRange)
	layPacked(t, m, 16, api.Packed{Addr: 1000, Len: 16, ID: 5, Flags: table})
	layPacked(t, m, 1000, api.Packed{Addr: 9000, Len: 4})
	wantPacked(t, m, r, 1, true, api.Taken{}, errBad)
	layPacked(t, m, 16, api.Packed{Addr: 1000, Len: 16, ID: 4, Flags: table})
	wantPacked(t, m, r, 1, true, api.Taken{}, errRange)
}

// P10.1 and P10.2: the errors of the memory, of the rings and of their kind come before all others.
func TestErrors(t *testing.T) {
	m := memory(t, [2]uint64{0, 1000})
	split, packed := rings(t, false, 4, 0), rings(t, true, 4, 0)
	copied := *m
	for _, none := range []*gmem.Mem{nil, {}, &copied} {
		for _, r := range []api.Rings{split, packed, {}} {
			wantSplit(t, none, r, -1, true, nil, errNil, 0)
			wantPacked(t, none, r, -1, true, api.Taken{}, errNil)
		}
	}
	odd := []api.Rings{
		{}, {Packed: true},
		{Size: 3, Driver: 64, Device: 128}, {Size: 4, Desc: 8, Driver: 128, Device: 192}, {Size: 4}, {Size: 2 * maxSize, Driver: 1 << 24, Device: 1 << 28},
		{Packed: true, Size: 4, Desc: 8, Driver: 128, Device: 192}, {Packed: true, Size: 4}, {Packed: true, Size: maxSize + 1, Driver: 1 << 24, Device: 1 << 28},
		{Packed: true, Size: 2, Desc: math.MaxUint64 - 15, Driver: 128, Device: 192},
	}
	for _, r := range odd {
		wantSplit(t, m, r, 0, true, nil, errArg, 0)
		wantPacked(t, m, r, 0, true, api.Taken{}, errArg)
	}
	wantSplit(t, m, packed, 0, true, nil, errArg, 0)
	wantSplit(t, m, packed, -1, true, nil, errArg, 0)
	wantPacked(t, m, split, 0, true, api.Taken{}, errArg)
	wantPacked(t, m, split, -1, true, api.Taken{}, errArg)
	// The other parts of rings need not exist.
	empty := memory(t)
	wantSplit(t, empty, split, 0, true, nil, errRange, 0)
	wantSplit(t, empty, split, 4, true, nil, errBad, 0)
	wantPacked(t, empty, packed, 0, true, api.Taken{}, errRange)
	wantPacked(t, empty, packed, 4, true, api.Taken{}, errArg)
	only := memory(t, [2]uint64{1024, 16})
	lay(t, only, 1024, api.Desc{Addr: 1024, Len: 16})
	wantSplit(t, only, rings(t, false, 4, 1024), 0, true, []api.Seg{{At: 1024, Len: 16}}, ok, 1)
	layPacked(t, only, 1024, api.Packed{Addr: 1024, Len: 16})
	wantPacked(t, only, rings(t, true, 4, 1024), 0, true, api.Taken{Count: 1, Segs: []api.Seg{{At: 1024, Len: 16}}}, ok)
}

// P10.1: a ring at the end of all addresses.
func TestLastAddresses(t *testing.T) {
	top := uint64(math.MaxUint64 - 63)
	m := memory(t, [2]uint64{0, 100}, [2]uint64{top, 64})
	lay(t, m, top, api.Desc{Addr: 8, Len: 4}, api.Desc{}, api.Desc{}, api.Desc{Addr: top, Len: 64, Flags: next, Next: 0})
	r := api.Rings{Size: 4, Desc: top, Driver: 0, Device: 32}
	wantSplit(t, m, r, 3, true, []api.Seg{{At: top, Len: 64}, {At: 8, Len: 4}}, ok, 2)
	lay(t, m, top+48, api.Desc{Addr: math.MaxUint64 - 15, Len: 16, Flags: table})
	wantSplit(t, m, r, 3, true, nil, errBad, 2)
	lay(t, m, top+48, api.Desc{Addr: math.MaxUint64 - 31, Len: 16, Flags: table})
	lay(t, m, top+32, api.Desc{Addr: math.MaxUint64, Len: 1})
	wantSplit(t, m, r, 3, true, []api.Seg{{At: math.MaxUint64, Len: 1}}, ok, 2)

	p := api.Rings{Packed: true, Size: 4, Desc: top, Driver: 0, Device: 32}
	layPacked(t, m, top, api.Packed{Addr: 8, Len: 4}, api.Packed{}, api.Packed{}, api.Packed{Addr: top, Len: 64, Flags: next})
	wantPacked(t, m, p, 3, true, api.Taken{Count: 2, Segs: []api.Seg{{At: top, Len: 64}, {At: 8, Len: 4}}}, ok)
}

// P10.1: the Lens of a buffer sum up to less than 2^32, and this is asked before whether segments exist.
func TestSums(t *testing.T) {
	m := memory(t, [2]uint64{0, 1000})
	r, p := rings(t, false, 4, 0), rings(t, true, 4, 0)
	for _, c := range []struct {
		n uint32
		e api.Errno
	}{{math.MaxUint32 - 4, errRange}, {math.MaxUint32 - 3, errBad}, {math.MaxUint32, errBad}} {
		lay(t, m, 0, api.Desc{Len: c.n, Flags: next, Next: 1}, api.Desc{Addr: 100, Len: 4, Flags: write})
		wantSplit(t, m, r, 0, false, nil, c.e, 2)
		layPacked(t, m, 0, api.Packed{Len: c.n, Flags: next}, api.Packed{Addr: 100, Len: 4, Flags: write})
		wantPacked(t, m, p, 0, false, api.Taken{}, c.e)
	}
}

// P10.2 and P10.3: the longest chains: a whole ring, and then a table; more segments than a buffer has are read to the end, and then ErrBad.
func TestReads(t *testing.T) {
	const tableAt = 1 << 19
	for _, size := range []int{1, 2, 4, maxSegs, 2 * maxSegs, 1024, maxSize} {
		m := memory(t, [2]uint64{0, 1 << 20})
		r := rings(t, false, size, 0)
		for i := range size {
			lay(t, m, 16*uint64(i), api.Desc{Addr: 0, Len: 1, Flags: next, Next: uint16(i + 1)})
		}
		last := 16 * uint64(size-1)
		lay(t, m, last, api.Desc{Addr: 0, Len: 1, Flags: next, Next: 0})
		wantSplit(t, m, r, 0, false, nil, errBad, size)
		wantSplit(t, m, r, size-1, false, nil, errBad, size)
		lay(t, m, last, api.Desc{Addr: 0, Len: 1})
		e := api.Errno(errBad)
		if size <= maxSegs {
			e = ok
		}
		if got := checkSplit(t, m, r, 0, false); got != e || Reads(m, r, 0, false) != size {
			t.Errorf("%d descriptors: error %d, %d", size, got, Reads(m, r, 0, false))
		}
		lay(t, m, last, api.Desc{Addr: tableAt, Len: 16 * maxSegs, Flags: table})
		for i := range maxSegs {
			lay(t, m, tableAt+16*uint64(i), api.Desc{Addr: 0, Len: 1, Flags: next, Next: uint16(i + 1)})
		}
		wantSplit(t, m, r, 0, true, nil, errBad, size+maxSegs)
		wantSplit(t, m, r, size-1, true, nil, errBad, 1+maxSegs)
		wantSplit(t, m, r, 0, false, nil, errBad, size)
		lay(t, m, tableAt+16*(maxSegs-1), api.Desc{Addr: 0, Len: 1})
		if got := checkSplit(t, m, r, size-1, true); got != ok {
			t.Errorf("a table of %d entries: error %d", maxSegs, got)
		}
		if got := checkSplit(t, m, r, 0, true); (got == ok) != (size == 1) || Reads(m, r, 0, true) != size+maxSegs {
			t.Errorf("%d descriptors and a table: error %d", size, got)
		}
		// Whatever comes last is found, though there are too many segments before it.
		lay(t, m, last, api.Desc{Addr: 1 << 20, Len: 16, Flags: table})
		wantSplit(t, m, r, 0, true, nil, errRange, size)
	}
}

// P10.1 and P10.3: the longest packed chains.
func TestPackedLong(t *testing.T) {
	m := memory(t, [2]uint64{0, 1 << 20})
	r := rings(t, true, maxSize, 0)
	for i := range maxSize {
		layPacked(t, m, 16*uint64(i), api.Packed{Len: 1, Flags: next})
	}
	wantPacked(t, m, r, 7, true, api.Taken{}, errBad)
	layPacked(t, m, 16*(maxSegs-9), api.Packed{Len: 1, ID: maxSize - 1, Flags: write})
	want := api.Taken{ID: maxSize - 1, Count: maxSegs}
	for range maxSegs - 1 {
		want.Segs = append(want.Segs, api.Seg{Len: 1})
	}
	want.Segs = append(want.Segs, api.Seg{Len: 1, Write: true})
	wantPacked(t, m, r, maxSize-8, true, want, ok)
	wantPacked(t, m, r, maxSize-9, true, api.Taken{}, errBad)
	layPacked(t, m, 16*(maxSegs-9), api.Packed{Len: 1, ID: maxSize, Flags: write})
	wantPacked(t, m, r, maxSize-8, true, api.Taken{}, errBad)
}

// bufferIn is a valid buffer of n segments within the bytes from an address on.
func bufferIn(r *rand.Rand, at, bytes uint64, n int) []api.Seg {
	written := r.Intn(n + 1)
	l := make([]api.Seg, n)
	for i := range l {
		from := uint64(r.Intn(int(bytes)))
		l[i] = api.Seg{At: at + from, Len: 1 + uint32(r.Intn(int(bytes-from))), Write: i >= written}
	}
	return l
}

// P10.3: what was built in a split ring, or in a table behind it, is read as the buffer.
func TestBuiltSplit(t *testing.T) {
	r := rand.New(rand.NewSource(101))
	for range 1500 {
		size := 1 << r.Intn(9)
		m := memory(t, [2]uint64{0, 1 << 14})
		ring := rings(t, false, size, uint64(r.Intn(100)))
		n := 1 + r.Intn(min(size, maxSegs))
		l := bufferIn(r, 0, 1<<14, n)
		ids := r.Perm(size)[:n]
		puts, _ := build.Split(ids, l)
		for _, p := range puts {
			lay(t, m, ring.Desc+16*uint64(p.At), p.Desc)
		}
		wantSplit(t, m, ring, ids[0], r.Intn(2) == 0, l, ok, n)

		n = 1 + r.Intn(maxSegs)
		l = bufferIn(r, 0, 1<<14, n)
		b, _ := build.SplitTable(l)
		at := uint64(10000 + r.Intn(1000))
		m.Write(at, b)
		one, _ := build.SplitOne(ids[0], at, n)
		lay(t, m, ring.Desc+16*uint64(ids[0]), one.Desc)
		wantSplit(t, m, ring, ids[0], true, l, ok, n+1)
		wantSplit(t, m, ring, ids[0], false, nil, errBad, 1)
	}
}

// P10.3: what was built in a packed ring, or in a table beside it, is read as the buffer.
func TestBuiltPacked(t *testing.T) {
	r := rand.New(rand.NewSource(102))
	for range 1500 {
		size := 1 + r.Intn(300)
		m := memory(t, [2]uint64{0, 1 << 14})
		ring := rings(t, true, size, uint64(r.Intn(100)))
		n := 1 + r.Intn(min(size, maxSegs))
		l := bufferIn(r, 0, 1<<14, n)
		p, id := api.Pos{At: r.Intn(size), Wrap: r.Intn(2) == 0}, r.Intn(size)
		puts, _ := build.Packed(p, size, id, l)
		for _, q := range puts {
			layPacked(t, m, ring.Desc+16*uint64(q.At), q.Desc)
		}
		wantPacked(t, m, ring, p.At, r.Intn(2) == 0, api.Taken{ID: id, Count: n, Segs: l}, ok)

		n = 1 + r.Intn(maxSegs)
		l = bufferIn(r, 0, 1<<14, n)
		b, _ := build.PackedTable(l)
		at := uint64(10000 + r.Intn(1000))
		m.Write(at, b)
		one, _ := build.PackedOne(p, size, id, at, n)
		layPacked(t, m, ring.Desc+16*uint64(p.At), one.Desc)
		wantPacked(t, m, ring, p.At, true, api.Taken{ID: id, Count: 1, Segs: l}, ok)
		wantPacked(t, m, ring, p.At, false, api.Taken{}, errBad)
	}
}

// randomMemory is a memory of some small regions, some of them adjacent, with a ring of that kind, not always whole, in it.
func randomMemory(t *testing.T, r *rand.Rand, packed bool) (*gmem.Mem, api.Rings) {
	t.Helper()
	var l [][2]uint64
	at := uint64(r.Intn(2) * r.Intn(40))
	for range 1 + r.Intn(3) {
		n := uint64(1 + r.Intn(900))
		l = append(l, [2]uint64{at, n})
		at += n + uint64(r.Intn(2)*r.Intn(20))
	}
	size := 1 + r.Intn(6)
	if !packed {
		size = 1 << r.Intn(4)
	}
	return memory(t, l...), rings(t, packed, size, uint64(r.Intn(2)*r.Intn(300)))
}

// words is the four words of a descriptor that is likely to be one of a chain.
func words(r *rand.Rand, size int, more bool) (addr uint64, n uint32, flags, other uint16) {
	addr, n = uint64(r.Intn(600)), uint32(1+r.Intn(60))
	other = uint16(r.Intn(size))
	if more || r.Intn(3) == 0 {
		flags = next
	}
	switch r.Intn(12) {
	case 0:
		flags |= write
	case 1, 2, 3:
		flags, n = table|uint16(r.Intn(2)*write), 16*uint32(1+r.Intn(5))
	case 4:
		addr = r.Uint64() >> r.Intn(64)
	case 5:
		n = r.Uint32() >> r.Intn(32)
	case 6:
		flags = uint16(r.Intn(1 << 16))
	case 7:
		other = uint16(r.Intn(size + 2))
	case 8:
		other = uint16(r.Intn(1 << 16))
	}
	return addr, n, flags, other
}

// fill lays descriptors that are likely to be some of a chain from an address on, as far as there is memory.
func fill(r *rand.Rand, m *gmem.Mem, at uint64, size int, packed bool) {
	for i := range size {
		addr, n, flags, other := words(r, size, packed && r.Intn(3) > 0)
		b := desc.Bytes(api.Desc{Addr: addr, Len: n, Flags: flags, Next: other})
		if packed {
			b = desc.PackedBytes(api.Packed{Addr: addr, Len: n, ID: other, Flags: flags})
		}
		m.Write(at+16*uint64(i), b)
	}
}

// P10.1 to P10.3: chains and tables of memories that are nearly in order are read as the words tell.
func TestRandom(t *testing.T) {
	r := rand.New(rand.NewSource(103))
	got := map[bool]map[api.Errno]int{false: {}, true: {}}
	for range 60000 {
		packed := r.Intn(2) == 0
		m, ring := randomMemory(t, r, packed)
		for range r.Intn(6) {
			fill(r, m, uint64(r.Intn(600)), 1+r.Intn(5), packed)
		}
		fill(r, m, ring.Desc, ring.Size, packed)
		if packed {
			p := api.Pos{At: r.Intn(ring.Size), Wrap: r.Intn(2) == 0}
			got[packed][checkPacked(t, m, ring, p, r.Intn(4) > 0)]++
		} else {
			got[packed][checkSplit(t, m, ring, r.Intn(ring.Size+1), r.Intn(4) > 0)]++
		}
	}
	for packed, n := range got {
		if n[ok] < 1000 || n[errBad] < 1000 || n[errRange] < 1000 {
			t.Errorf("packed %t: results by error: %v", packed, n)
		}
	}
}

// P10.3: whatever the memory contains, all functions end within their bounds, as the words tell, and write nothing.
func TestNoise(t *testing.T) {
	r := rand.New(rand.NewSource(104))
	for range 20000 {
		packed := r.Intn(2) == 0
		m, ring := randomMemory(t, r, packed)
		mask := byte(r.Intn(256) | r.Intn(256))
		for _, region := range m.Regions() {
			b := make([]byte, region.Len)
			for i := range b {
				b[i] = byte(r.Intn(256)) & mask
				if r.Intn(4) > 0 {
					b[i] &= 7
				}
				if i%8 > 1 && r.Intn(10) > 0 {
					b[i] = 0
				}
			}
			m.Write(region.At, b)
		}
		for at := range ring.Size {
			if packed {
				checkPacked(t, m, ring, api.Pos{At: at}, true)
			} else {
				checkSplit(t, m, ring, at, true)
			}
		}
	}
}

// wipe overwrites a list up to its capacity.
func wipe(l []api.Seg) {
	l = l[:cap(l)]
	for i := range l {
		l[i] = api.Seg{At: 9}
	}
}

// P10.1: a result shares no memory with another one, nor with the memory that was read.
func TestResults(t *testing.T) {
	m := memory(t, [2]uint64{0, 4096})
	l := []api.Seg{{At: 1000, Len: 8}, {At: 1100, Len: 9}, {At: 1200, Len: 4, Write: true}}
	for _, packed := range []bool{false, true} {
		ring := rings(t, packed, 4, 0)
		read := func() []api.Seg {
			if packed {
				x, _ := Packed(m, ring, api.Pos{At: 2, Wrap: true}, false)
				return x.Segs
			}
			s, _ := Split(m, ring, 2, false)
			return s
		}
		if packed {
			puts, _ := build.Packed(api.Pos{At: 2, Wrap: true}, 4, 1, l)
			for _, q := range puts {
				layPacked(t, m, 16*uint64(q.At), q.Desc)
			}
		} else {
			puts, _ := build.Split([]int{2, 0, 1}, l)
			for _, p := range puts {
				lay(t, m, 16*uint64(p.At), p.Desc)
			}
		}
		image := m.Image()
		a, b := read(), read()
		wipe(b)
		if !slices.Equal(a, l) || !slices.Equal(read(), l) || !bytes.Equal(m.Image(), image) {
			t.Errorf("packed %t: %v, %v", packed, a, read())
		}
		m.Write(0, make([]byte, 64))
		if !slices.Equal(a, l) {
			t.Errorf("packed %t: %v", packed, a)
		}
	}
}
