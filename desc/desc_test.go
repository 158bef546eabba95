package desc

import (
	"bytes"
	"encoding/binary"
	"math"
	"math/rand"
	"slices"
	"testing"

	"dumbwaiter/api"
)

const (
	top16 = math.MaxUint16
	top32 = math.MaxUint32
	top64 = math.MaxUint64
)

// All flags that a descriptor may have, each alone, none and all at once.
var someFlags = []uint16{
	0, api.FlagNext, api.FlagWrite, api.FlagTable, api.FlagAvail, api.FlagUsed,
	api.FlagNext | api.FlagWrite, api.FlagNext | api.FlagWrite | api.FlagTable, api.FlagAvail | api.FlagUsed,
	api.FlagNext | api.FlagWrite | api.FlagTable | api.FlagAvail | api.FlagUsed, top16,
}

// Words at the edges, and words each of whose bytes differs from the others.
var (
	words16 = append([]uint16{1, 2, 0x80, 0xff, 0x100, 0x1234, 0x7fff, 0x8000, 0xff00}, someFlags...)
	words32 = []uint32{0, 1, 0xff, 0x100, 0xffff, 1 << 16, 1<<24 - 1, 1 << 24, 0x12345678, 1 << 31, top32 - 1, top32}
	words64 = []uint64{0, 1, 0xff, 0x100, top32, 1 << 32, 0x123456789abcdef0, 1 << 56, 1 << 63, top64 - 1, top64}
)

// words is the words of a descriptor, packed or not.
type words struct {
	addr        uint64
	length      uint32
	third, last uint16
}

func (w words) desc() api.Desc {
	return api.Desc{Addr: w.addr, Len: w.length, Flags: w.third, Next: w.last}
}

func (w words) packed() api.Packed {
	return api.Packed{Addr: w.addr, Len: w.length, ID: w.third, Flags: w.last}
}

// bytes is the 16 bytes of the words by another's encoding.
func (w words) bytes() []byte {
	b := binary.LittleEndian.AppendUint64(nil, w.addr)
	b = binary.LittleEndian.AppendUint32(b, w.length)
	b = binary.LittleEndian.AppendUint16(b, w.third)
	return binary.LittleEndian.AppendUint16(b, w.last)
}

// eachWords goes through all descriptors whose words are at the edges.
func eachWords(yield func(words) bool) {
	for _, a := range words64 {
		for _, l := range words32 {
			for _, x := range words16 {
				for _, y := range words16 {
					if !yield(words{a, l, x, y}) {
						return
					}
				}
			}
		}
	}
}

// pattern is n bytes, none like its neighbours.
func pattern(n int) []byte {
	b := make([]byte, n)
	for i := range b {
		b[i] = byte(i%251 + 1)
	}
	return b
}

// The chapter's examples.

func TestExamples(t *testing.T) {
	d := api.Desc{Addr: 0x1000, Len: 0x20, Flags: api.FlagNext, Next: 5}
	b := []byte{0x00, 0x10, 0, 0, 0, 0, 0, 0, 0x20, 0, 0, 0, 1, 0, 5, 0}
	if x := Bytes(d); !bytes.Equal(x, b) {
		t.Errorf("% x", x)
	}
	if x, e := Read(b); x != d || e != api.OK {
		t.Error(x, e)
	}
	if x := Mark(2, true, false); x != 0x0082 {
		t.Errorf("%x", x)
	}
	if x := Mark(2, true, true); x != 0x8082 {
		t.Errorf("%x", x)
	}
}

// P3.1: descriptors and packed descriptors.

func TestBytes(t *testing.T) {
	for w := range eachWords {
		want := w.bytes()
		if b := Bytes(w.desc()); !bytes.Equal(b, want) {
			t.Fatalf("% x, not % x", b, want)
		}
		if b := PackedBytes(w.packed()); !bytes.Equal(b, want) {
			t.Fatalf("packed: % x, not % x", b, want)
		}
	}
}

func TestRead(t *testing.T) {
	for w := range eachWords {
		b := w.bytes()
		if d, e := Read(b); d != w.desc() || e != api.OK {
			t.Fatalf("% x: %v %v", b, d, e)
		}
		if d, e := ReadPacked(b); d != w.packed() || e != api.OK {
			t.Fatalf("packed: % x: %v %v", b, d, e)
		}
	}
}

func TestReadOfAnotherLength(t *testing.T) {
	for n := range 100 {
		b := pattern(n)
		want := api.ErrBad
		if n == 16 {
			want = api.OK
		}
		if d, e := Read(b); e != want || e != api.OK && d != (api.Desc{}) {
			t.Error(n, d, e)
		}
		if d, e := ReadPacked(b); e != want || e != api.OK && d != (api.Packed{}) {
			t.Error("packed", n, d, e)
		}
	}
	// What is behind the bytes does not count.
	for _, n := range []int{0, 1, 15} {
		if d, e := Read(pattern(32)[:n]); e != api.ErrBad || d != (api.Desc{}) {
			t.Error(n, d, e)
		}
		if d, e := ReadPacked(pattern(32)[:n]); e != api.ErrBad || d != (api.Packed{}) {
			t.Error("packed", n, d, e)
		}
	}
	if d, e := Read(nil); e != api.ErrBad || d != (api.Desc{}) {
		t.Error(d, e)
	}
	if d, e := ReadPacked(nil); e != api.ErrBad || d != (api.Packed{}) {
		t.Error("packed", d, e)
	}
}

// P3.1: used elements and events.

func TestUsedWord(t *testing.T) {
	for _, id := range words32 {
		for _, n := range words32 {
			u := api.Used{ID: id, Len: n}
			b := binary.LittleEndian.AppendUint32(nil, id)
			b = binary.LittleEndian.AppendUint32(b, n)
			w := binary.LittleEndian.Uint64(b)
			if x := UsedWord(u); x != w {
				t.Errorf("%v: %x", u, x)
			}
			if x := ReadUsed(w); x != u {
				t.Errorf("%x: %v", w, x)
			}
		}
	}
}

func TestEventWord(t *testing.T) {
	for _, off := range words16 {
		for _, flags := range append([]uint16{api.EventOn, api.EventOff, api.EventAt, 3}, words16...) {
			ev := api.Event{Off: off, Flags: flags}
			b := binary.LittleEndian.AppendUint16(nil, off)
			b = binary.LittleEndian.AppendUint16(b, flags)
			w := uint64(binary.LittleEndian.Uint32(b))
			if x := EventWord(ev); x != w {
				t.Errorf("%v: %x", ev, x)
			}
			// Only the low 32 bits are an event.
			for _, above := range []uint64{0, 1 << 32, 1 << 40, 1 << 63, top32 << 32} {
				if x := ReadEvent(w | above); x != ev {
					t.Errorf("%x: %v", w|above, x)
				}
			}
		}
	}
}

// P3.2: flags of packed descriptors.

// has reports whether all of the bits are set.
func has(flags, bits uint16) bool { return flags&bits == bits }

var bools = []bool{false, true}

func TestAvailAndUsed(t *testing.T) {
	for f := range 1 << 16 {
		flags := uint16(f)
		avail, used := has(flags, 1<<7), has(flags, 1<<15)
		for _, wrap := range bools {
			if x := Avail(flags, wrap); x != (avail == wrap && used != wrap) {
				t.Fatalf("Avail(%x, %v): %v", flags, wrap, x)
			}
			if x := Used(flags, wrap); x != (avail == wrap && used == wrap) {
				t.Fatalf("Used(%x, %v): %v", flags, wrap, x)
			}
		}
	}
}

func TestMark(t *testing.T) {
	// By wrap and used.
	marks := map[[2]bool]uint16{
		{false, false}: api.FlagUsed,
		{true, false}:  api.FlagAvail,
		{false, true}:  0,
		{true, true}:   api.FlagAvail | api.FlagUsed,
	}
	for f := range 1 << 16 {
		flags := uint16(f)
		for k, m := range marks {
			want := flags&^(api.FlagAvail|api.FlagUsed) | m
			if x := Mark(flags, k[0], k[1]); x != want {
				t.Fatalf("Mark(%x, %v, %v): %x", flags, k[0], k[1], x)
			}
		}
	}
}

// P3.2: tables.

func TestTable(t *testing.T) {
	var l []api.Desc
	var want []byte
	for i := range api.TableSize + 1 {
		if b := Table(l); !bytes.Equal(b, want) {
			t.Fatalf("of %d: % x", i, b)
		}
		if x, e := ReadTable(want); e != api.OK || !slices.Equal(x, l) {
			t.Fatalf("of %d: %v %v", i, x, e)
		}
		w := words{top64 - uint64(i), uint32(i) << 20, uint16(i % 8), uint16(i + 1)}
		l = append(l, w.desc())
		want = append(want, w.bytes()...)
	}
}

func TestEmptyTable(t *testing.T) {
	for _, l := range [][]api.Desc{nil, {}} {
		if b := Table(l); len(b) != 0 {
			t.Error(b)
		}
	}
	for _, b := range [][]byte{nil, {}, pattern(16)[:0]} {
		if l, e := ReadTable(b); e != api.OK || len(l) != 0 {
			t.Error(l, e)
		}
	}
}

func TestReadTableInParts(t *testing.T) {
	for n := range 200 {
		l, e := ReadTable(pattern(n))
		switch {
		case n%16 != 0 && (e != api.ErrBad || len(l) != 0):
			t.Error(n, l, e)
		case n%16 == 0 && (e != api.OK || len(l) != n/16):
			t.Error(n, l, e)
		}
	}
	// What is behind the bytes does not make a descriptor whole.
	if l, e := ReadTable(pattern(64)[:40]); e != api.ErrBad || len(l) != 0 {
		t.Error(l, e)
	}
}

// P3.3: the theorems.

func TestWhatWasEncodedIsDecoded(t *testing.T) {
	for w := range eachWords {
		d := w.desc()
		if x, e := Read(Bytes(d)); x != d || e != api.OK {
			t.Fatal(d, x, e)
		}
		p := w.packed()
		if x, e := ReadPacked(PackedBytes(p)); x != p || e != api.OK {
			t.Fatal(p, x, e)
		}
	}
	r := rand.New(rand.NewSource(3))
	for range 1000 {
		w := r.Uint64()
		if x := UsedWord(ReadUsed(w)); x != w {
			t.Errorf("%x: %x", w, x)
		}
		if x := EventWord(ReadEvent(w)); x != w&top32 {
			t.Errorf("%x: %x", w, x)
		}
		b := make([]byte, 16*r.Intn(20))
		r.Read(b)
		l, e := ReadTable(b)
		if x := Table(l); e != api.OK || !bytes.Equal(x, b) {
			t.Errorf("% x: % x %v", b, x, e)
		}
	}
}

func TestOneOwner(t *testing.T) {
	for f := range 1 << 16 {
		flags := uint16(f)
		for _, wrap := range bools {
			if Avail(flags, wrap) && (Used(flags, wrap) || Used(flags, !wrap) || Avail(flags, !wrap)) {
				t.Fatalf("%x is available for %v, and more", flags, wrap)
			}
			if Used(flags, wrap) && (Used(flags, !wrap) || Avail(flags, !wrap)) {
				t.Fatalf("%x is used for %v, and more", flags, wrap)
			}
			a, u := Mark(flags, wrap, false), Mark(flags, wrap, true)
			if !Avail(a, wrap) || Used(a, wrap) || !Used(u, wrap) || Avail(u, wrap) {
				t.Fatalf("%x for %v: marked %x, and %x", flags, wrap, a, u)
			}
			// The last mark counts.
			if Mark(a, wrap, true) != u || Mark(u, wrap, false) != a || Mark(a, wrap, false) != a {
				t.Fatalf("%x for %v: marked again", flags, wrap)
			}
		}
	}
}

// Rule 3: results are new memory, and arguments stay as they are.

func TestNewMemory(t *testing.T) {
	d := api.Desc{Addr: 1, Len: 2, Flags: 3, Next: 4}
	l := append(make([]api.Desc, 0, 9), d, d)
	for name, b := range map[string]func() []byte{
		"Bytes":       func() []byte { return Bytes(d) },
		"PackedBytes": func() []byte { return PackedBytes(api.Packed{Addr: 1, Len: 2, ID: 3, Flags: 4}) },
		"Table":       func() []byte { return Table(l) },
	} {
		first, second := b(), b()
		clear(first[:cap(first)])
		if third := b(); !bytes.Equal(second, third) || bytes.Equal(first, third) {
			t.Error(name, second, third)
		}
	}
	if l[0] != d || l[1] != d || l[:3][2] != (api.Desc{}) {
		t.Error(l)
	}
}

func TestArgumentsStay(t *testing.T) {
	b := pattern(64)
	l, e := ReadTable(b[:32])
	again, e2 := ReadTable(b[:32])
	if e != api.OK || e2 != api.OK || !bytes.Equal(b, pattern(64)) {
		t.Fatal(e, e2, b)
	}
	clear(l[:cap(l)])
	want := slices.Clone(again)
	clear(b)
	if !slices.Equal(again, want) || want[0] == (api.Desc{}) {
		t.Error(again, want)
	}
	one := pattern(32)
	Read(one[:16])
	ReadPacked(one[:16])
	if !bytes.Equal(one, pattern(32)) {
		t.Error(one)
	}
}

// The flags of this package are those of api.

func TestFlags(t *testing.T) {
	if availFlag != api.FlagAvail || usedFlag != api.FlagUsed {
		t.Error(availFlag, usedFlag)
	}
}
