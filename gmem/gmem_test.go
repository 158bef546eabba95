package gmem

import (
	"bytes"
	"math"
	"math/rand"
	"slices"
	"testing"

	"dumbwaiter/api"
)

const top = math.MaxUint64

// The regions of the chapter's examples: two that touch.
var touching = []api.Region{{At: 100, Len: 8}, {At: 108, Len: 4}}

// Regions at both ends of the addresses, two that touch, and one apart from them.
var mixed = []api.Region{{At: 0, Len: 3}, {At: 100, Len: 8}, {At: 108, Len: 4}, {At: 120, Len: 1}, {At: top - 9, Len: 10}}

// Addresses at and around all edges of the mixed regions.
var mixedAddresses = func() []uint64 {
	l := []uint64{50, 1 << 32, 1 << 63, 1<<63 - 1}
	for i := range uint64(8) {
		l = append(l, i, top-i, top-i-8)
	}
	for at := uint64(90); at < 130; at++ {
		l = append(l, at)
	}
	return l
}()

var wordSizes = []int{1, 2, 4, 8}

var wrongWordSizes = []int{math.MinInt, -8, -4, -2, -1, 0, 3, 5, 6, 7, 9, 16, 1 << 32, 1<<32 + 1, math.MaxInt}

// newMem returns a memory with these regions.
func newMem(t *testing.T, l []api.Region) *Mem {
	t.Helper()
	m, e := New(l)
	if e != api.OK || m == nil {
		t.Fatal(l, m, e)
	}
	return m
}

// filled returns a memory with these regions, none of whose bytes is 0, nor like its neighbours.
func filled(t *testing.T, l []api.Region) *Mem {
	t.Helper()
	m := newMem(t, l)
	v := byte(0)
	for _, r := range l {
		for i := range r.Len {
			v = v%251 + 1
			if e := m.Store(r.At+i, 1, uint64(v)); e != api.OK {
				t.Fatal(r, i, e)
			}
		}
	}
	return m
}

// exists tells by the region in which a range begins whether the range exists: a model that goes byte by byte.
func exists(l []api.Region, at, n uint64) bool {
	if n == 0 || n > api.MaxMem {
		return false
	}
	for _, r := range l {
		in := uint64(0)
		for in < n && at+in >= at && at+in >= r.At && at+in-r.At < r.Len {
			in++
		}
		if in == n {
			return true
		}
	}
	return false
}

// unmade is memories that New did not return.
func unmade(t *testing.T) map[string]*Mem {
	copied := *filled(t, mixed)
	return map[string]*Mem{"nil": nil, "zero": {}, "copied": &copied}
}

// P2.1: Check and New.

// many is that many regions, each of that size and that far from the next.
func many(n int, apart, size uint64) []api.Region {
	var l []api.Region
	for i := range uint64(n) {
		l = append(l, api.Region{At: i * apart, Len: size})
	}
	return l
}

var validRegions = map[string][]api.Region{
	"none":                  nil,
	"none, not nil":         {},
	"one byte at 0":         {{At: 0, Len: 1}},
	"the last byte":         {{At: top, Len: 1}},
	"to 2^64":               {{At: top - 9, Len: 10}},
	"touching":              touching,
	"mixed":                 mixed,
	"both ends":             {{At: 0, Len: 1}, {At: top, Len: 1}},
	"touching at 2^64":      {{At: top - 1, Len: 1}, {At: top, Len: 1}},
	"most bytes":            {{At: 0, Len: api.MaxMem}},
	"most bytes to 2^64":    {{At: top - api.MaxMem + 1, Len: api.MaxMem}},
	"most bytes in two":     {{At: 7, Len: api.MaxMem - 1}, {At: 1 << 40, Len: 1}},
	"most regions":          many(api.MaxRegions, 1<<32, 1),
	"most of both":          many(api.MaxRegions, 1<<32, api.MaxMem/api.MaxRegions),
	"most regions touching": many(api.MaxRegions, 1, 1),
}

var wrongRegions = map[string][]api.Region{
	"no byte":                  {{At: 1}},
	"no byte at 0":             {{}},
	"no byte after one":        {{At: 1, Len: 2}, {At: 3}},
	"no byte before one":       {{At: 1}, {At: 3, Len: 2}},
	"no byte in the middle":    {{At: 1, Len: 2}, {At: 5}, {At: 9, Len: 1}},
	"overlapping by one":       {{At: 1, Len: 2}, {At: 2, Len: 1}},
	"the same twice":           {{At: 5, Len: 2}, {At: 5, Len: 2}},
	"the same beginning":       {{At: 5, Len: 1}, {At: 5, Len: 2}},
	"within another":           {{At: 5, Len: 9}, {At: 6, Len: 2}},
	"descending":               {{At: 9, Len: 2}, {At: 1, Len: 2}},
	"descending, touching":     {{At: 108, Len: 4}, {At: 100, Len: 8}},
	"descending later":         {{At: 1, Len: 2}, {At: 9, Len: 2}, {At: 5, Len: 2}},
	"overlapping at the end":   {{At: top - 1, Len: 2}, {At: top, Len: 1}},
	"beyond 2^64 by one":       {{At: top, Len: 2}},
	"beyond 2^64":              {{At: top - 9, Len: 11}},
	"beyond 2^64, then behind": {{At: 0, Len: 1}, {At: top, Len: 3}},
	"beyond 2^64, then on":     {{At: top, Len: 2}, {At: 4, Len: 1}},
	"too many bytes":           {{At: 0, Len: api.MaxMem + 1}},
	"too many bytes in two":    {{Len: api.MaxMem}, {At: 1 << 30, Len: 1}},
	"too many bytes, first":    {{Len: 1}, {At: 1 << 30, Len: api.MaxMem}},
	"too many bytes in all":    append(many(api.MaxRegions-1, 1<<32, api.MaxMem/api.MaxRegions), api.Region{At: top - api.MaxMem, Len: api.MaxMem/api.MaxRegions + 1}),
	"all bytes":                {{At: 0, Len: top}},
	"all bytes but one":        {{At: 1, Len: top}},
	"a sum of 2^64":            {{At: 0, Len: 1 << 63}, {At: 1 << 63, Len: 1 << 63}},
	"a sum beyond 2^64":        {{At: 0, Len: 2}, {At: 2, Len: top}},
	"too many regions":         many(api.MaxRegions+1, 1<<32, 1),
	"far too many regions":     many(1000, 1<<32, 1),
}

func TestCheck(t *testing.T) {
	for name, l := range validRegions {
		if e := Check(l); e != api.OK {
			t.Error(name, e)
		}
	}
	for name, l := range wrongRegions {
		if e := Check(l); e != api.ErrArg {
			t.Error(name, e)
		}
	}
}

func TestNew(t *testing.T) {
	for name, l := range validRegions {
		m, e := New(l)
		if e != api.OK || m == nil {
			t.Error(name, m, e)
			continue
		}
		if !slices.Equal(m.Regions(), l) {
			t.Error(name, m.Regions())
		}
		n := 0
		for _, r := range l {
			n += int(r.Len)
		}
		if !bytes.Equal(m.Image(), make([]byte, n)) {
			t.Error(name, "not all bytes are 0, or not that many")
		}
	}
	for name, l := range wrongRegions {
		if m, e := New(l); e != api.ErrArg || m != nil {
			t.Error(name, m, e)
		}
	}
}

// P2.2: the chapter's examples.

func TestExamples(t *testing.T) {
	m := newMem(t, touching)
	if e := m.Store(102, 4, 1); e != api.OK {
		t.Error(e)
	}
	if v, e := m.Load(102, 2); e != api.OK || v != 1 {
		t.Error(v, e)
	}
	if v, e := m.Load(106, 4); e != api.ErrRange || v != 0 {
		t.Error(v, e)
	}
	if m.Has(top, 2) {
		t.Error("Has")
	}
}

// P2.2: memories that were not made properly.

func TestUnmade(t *testing.T) {
	for name, m := range unmade(t) {
		// Also where another error, or none, would follow.
		for _, n := range []int{-1, 0, 1, 3, math.MaxInt} {
			for _, at := range []uint64{100, 5000, top} {
				if v, e := m.Load(at, n); e != api.ErrNil || v != 0 {
					t.Error(name, "Load", at, n, v, e)
				}
				if e := m.Store(at, n, 1); e != api.ErrNil {
					t.Error(name, "Store", at, n, e)
				}
				if b, e := m.Read(at, n); e != api.ErrNil || len(b) != 0 {
					t.Error(name, "Read", at, n, b, e)
				}
				if m.Has(at, uint64(n)) {
					t.Error(name, "Has", at, n)
				}
			}
		}
		for _, b := range [][]byte{nil, {}, {1}, make([]byte, 5000)} {
			if e := m.Write(100, b); e != api.ErrNil {
				t.Error(name, "Write", len(b), e)
			}
		}
		if l := m.Regions(); len(l) != 0 {
			t.Error(name, l)
		}
		if b := m.Image(); len(b) != 0 {
			t.Error(name, b)
		}
	}
}

func TestCopyDoesNotChangeTheMemory(t *testing.T) {
	m := filled(t, mixed)
	before := m.Image()
	copied := *m
	copied.Store(100, 8, 0)
	copied.Write(100, []byte{0, 0})
	if !bytes.Equal(m.Image(), before) {
		t.Error(m.Image())
	}
	if v, e := m.Load(0, 1); e != api.OK || v != 1 {
		t.Error(v, e)
	}
}

func TestNoRegions(t *testing.T) {
	m := newMem(t, nil)
	for _, at := range []uint64{0, 1, 1 << 63, top} {
		if v, e := m.Load(at, 1); e != api.ErrRange || v != 0 {
			t.Error(at, v, e)
		}
		if e := m.Store(at, 1, 0); e != api.ErrRange {
			t.Error(at, e)
		}
		if b, e := m.Read(at, 1); e != api.ErrRange || len(b) != 0 {
			t.Error(at, b, e)
		}
		if b, e := m.Read(at, 0); e != api.OK || len(b) != 0 {
			t.Error(at, b, e)
		}
		if e := m.Write(at, []byte{1}); e != api.ErrRange {
			t.Error(at, e)
		}
		if e := m.Write(at, nil); e != api.OK {
			t.Error(at, e)
		}
		if m.Has(at, 0) || m.Has(at, 1) {
			t.Error(at)
		}
	}
	if len(m.Regions()) != 0 || len(m.Image()) != 0 {
		t.Error(m.Regions(), m.Image())
	}
}

// P2.2: Has.

func TestHas(t *testing.T) {
	m := newMem(t, mixed)
	for _, c := range []struct {
		at, n uint64
		want  bool
	}{
		{0, 1, true}, {0, 3, true}, {0, 4, false}, {2, 1, true}, {2, 2, false}, {3, 1, false},
		{100, 8, true}, {100, 9, false}, {99, 1, false}, {99, 2, false}, {107, 1, true}, {107, 2, false},
		{108, 4, true}, {108, 5, false}, {111, 1, true}, {112, 1, false}, {100, 12, false},
		{120, 1, true}, {120, 2, false}, {121, 1, false},
		{top - 9, 10, true}, {top - 9, 11, false}, {top - 10, 1, false}, {top - 10, 11, false},
		{top, 1, true}, {top, 2, false}, {top, 3, false}, {top - 1, 2, true}, {top - 1, 3, false},
		{0, top, false}, {1, top, false}, {2, top, false}, {100, top, false}, {100, top - 99, false}, {top, top, false}, {top - 9, 1 << 63, false},
	} {
		if is := m.Has(c.at, c.n); is != c.want {
			t.Error(c, is)
		}
	}
}

func TestNoBytesDoNotExist(t *testing.T) {
	m := newMem(t, mixed)
	for _, at := range mixedAddresses {
		if m.Has(at, 0) {
			t.Error(at)
		}
	}
}

// P2.2 and P2.3: each method accepts exactly the ranges that exist.

func TestExactlyWhatExists(t *testing.T) {
	m := filled(t, mixed)
	before := m.Image()
	lengths := []uint64{0, 1, 2, 3, 4, 5, 7, 8, 9, 10, 11, 12, 13, 1 << 20, 1 << 32, math.MaxInt, 1 << 63, top - 108, top - 9, top - 1, top}
	for _, at := range mixedAddresses {
		for _, n := range lengths {
			if is := m.Has(at, n); is != exists(mixed, at, n) {
				t.Error("Has", at, n, is)
			}
			if n == 0 || n > math.MaxInt {
				continue
			}
			if b, e := m.Read(at, int(n)); (e == api.OK) != exists(mixed, at, n) || e != api.OK && (e != api.ErrRange || len(b) != 0) {
				t.Error("Read", at, n, b, e)
			}
		}
		for n := range 13 {
			if n == 0 || exists(mixed, at, uint64(n)) {
				continue
			}
			if e := m.Write(at, make([]byte, n)); e != api.ErrRange {
				t.Error("Write", at, n, e)
			}
		}
		for _, n := range wordSizes {
			if v, e := m.Load(at, n); (e == api.OK) != exists(mixed, at, uint64(n)) || e != api.OK && (e != api.ErrRange || v != 0) {
				t.Error("Load", at, n, v, e)
			}
			if exists(mixed, at, uint64(n)) {
				continue
			}
			if e := m.Store(at, n, 0); e != api.ErrRange {
				t.Error("Store", at, n, e)
			}
		}
	}
	if !bytes.Equal(m.Image(), before) {
		t.Error("an access that was rejected changed something")
	}
}

// P2.2: Load and Store.

func TestWordsAreLittleEndian(t *testing.T) {
	const v = 0x8877665544332211
	low := []byte{0x11, 0x22, 0x33, 0x44, 0x55, 0x66, 0x77, 0x88}
	for _, n := range wordSizes {
		m := filled(t, touching)
		want := m.Image()
		if e := m.Store(100, n, v); e != api.OK {
			t.Error(n, e)
		}
		copy(want, low[:n])
		if !bytes.Equal(m.Image(), want) {
			t.Errorf("%d: %x", n, m.Image())
		}
		kept := uint64(v)
		if n < 8 {
			kept = v % (1 << (8 * n))
		}
		if w, e := m.Load(100, n); e != api.OK || w != kept {
			t.Errorf("%d: %x %v", n, w, e)
		}
		if !bytes.Equal(m.Image(), want) {
			t.Error("Load changed something", n)
		}
	}
}

func TestStoreSetsAllBytesOfTheWord(t *testing.T) {
	for _, n := range wordSizes {
		for _, v := range []uint64{0, 1, 0x80, 0xff, 0x100, 0xff00, 0x10000, 0xff0000, 1 << 31, 1 << 32, 1 << 40, 1 << 56, 1 << 63, 0xff00ff00ff00ff00, 0x00ff00ff00ff00ff, top} {
			m := filled(t, []api.Region{{At: 16, Len: 24}})
			want := m.Image()
			for i := range n {
				want[7+i] = byte(v >> (8 * i))
			}
			if e := m.Store(23, n, v); e != api.OK || !bytes.Equal(m.Image(), want) {
				t.Errorf("%d %x: %v %x", n, v, e, m.Image())
			}
		}
	}
}

func TestWordsAtTheEdges(t *testing.T) {
	m := newMem(t, mixed)
	for _, c := range []struct {
		at    uint64
		bytes int
		e     api.Errno
	}{
		{0, 1, api.OK}, {0, 2, api.OK}, {0, 4, api.ErrRange}, {2, 1, api.OK}, {3, 1, api.ErrRange},
		{100, 8, api.OK}, {101, 8, api.ErrRange}, {104, 4, api.OK}, {105, 4, api.ErrRange}, {106, 4, api.ErrRange}, {107, 1, api.OK}, {107, 2, api.ErrRange},
		{108, 4, api.OK}, {108, 8, api.ErrRange}, {99, 1, api.ErrRange}, {99, 2, api.ErrRange}, {112, 1, api.ErrRange},
		{top - 7, 8, api.OK}, {top - 6, 8, api.ErrRange}, {top - 3, 4, api.OK}, {top - 2, 4, api.ErrRange}, {top - 1, 2, api.OK}, {top, 2, api.ErrRange}, {top, 1, api.OK},
	} {
		if _, e := m.Load(c.at, c.bytes); e != c.e {
			t.Error("Load", c, e)
		}
		if e := m.Store(c.at, c.bytes, 1); e != c.e {
			t.Error("Store", c, e)
		}
	}
}

func TestWrongWordSizes(t *testing.T) {
	m := filled(t, mixed)
	before := m.Image()
	for _, n := range wrongWordSizes {
		// ErrArg comes before ErrRange.
		for _, at := range []uint64{0, 100, 108, 5000, top - 9, top} {
			if v, e := m.Load(at, n); e != api.ErrArg || v != 0 {
				t.Error("Load", at, n, v, e)
			}
			if e := m.Store(at, n, 0); e != api.ErrArg {
				t.Error("Store", at, n, e)
			}
		}
	}
	if !bytes.Equal(m.Image(), before) {
		t.Error(m.Image())
	}
}

// P2.2: Read and Write.

func TestReadAndWrite(t *testing.T) {
	m := filled(t, touching)
	want := m.Image()
	for _, c := range []struct {
		at uint64
		b  []byte
	}{
		{100, []byte{200}}, {107, []byte{201}}, {108, []byte{202}}, {111, []byte{203}}, {100, []byte{1, 2, 3, 4, 5, 6, 7, 8}}, {108, []byte{9, 8, 7, 6}}, {102, []byte{0, 0, 0}}, {109, []byte{0, 255}},
	} {
		if e := m.Write(c.at, c.b); e != api.OK {
			t.Error(c, e)
		}
		copy(want[c.at-100:], c.b)
		if !bytes.Equal(m.Image(), want) {
			t.Error(c, m.Image())
		}
		if b, e := m.Read(c.at, len(c.b)); e != api.OK || !bytes.Equal(b, c.b) {
			t.Error(c, b, e)
		}
	}
}

func TestReadWrongNumbers(t *testing.T) {
	m := newMem(t, mixed)
	for _, n := range []int{-1, -2, math.MinInt, math.MinInt + 1} {
		// ErrArg comes before ErrRange.
		for _, at := range []uint64{0, 100, 5000, top} {
			if b, e := m.Read(at, n); e != api.ErrArg || len(b) != 0 {
				t.Error(at, n, b, e)
			}
		}
	}
}

func TestNoBytes(t *testing.T) {
	m := filled(t, mixed)
	before := m.Image()
	for _, at := range mixedAddresses {
		if b, e := m.Read(at, 0); e != api.OK || len(b) != 0 {
			t.Error(at, b, e)
		}
		if e := m.Write(at, nil); e != api.OK {
			t.Error(at, e)
		}
		if e := m.Write(at, []byte{}); e != api.OK {
			t.Error(at, e)
		}
	}
	if !bytes.Equal(m.Image(), before) {
		t.Error(m.Image())
	}
}

func TestWriteAllOrNothing(t *testing.T) {
	m := filled(t, mixed)
	before := m.Image()
	for _, c := range []struct {
		at uint64
		n  int
	}{{0, 4}, {2, 2}, {99, 2}, {100, 9}, {100, 12}, {107, 2}, {111, 2}, {120, 2}, {top, 2}, {top - 9, 11}, {top - 10, 11}, {5000, 1}, {0, api.MaxMem + 1}} {
		if e := m.Write(c.at, make([]byte, c.n)); e != api.ErrRange {
			t.Error(c, e)
		}
	}
	if !bytes.Equal(m.Image(), before) {
		t.Error(m.Image())
	}
}

// P2.2: the greatest memories, and Image.

func TestGreatestRegion(t *testing.T) {
	for _, at := range []uint64{0, 12345, top - api.MaxMem + 1} {
		m := newMem(t, []api.Region{{At: at, Len: api.MaxMem}})
		b := make([]byte, api.MaxMem)
		for i := range b {
			b[i] = byte(i*7 + i>>8)
		}
		if e := m.Write(at, b); e != api.OK {
			t.Error(at, e)
		}
		if got, e := m.Read(at, api.MaxMem); e != api.OK || !bytes.Equal(got, b) {
			t.Error(at, e)
		}
		if !bytes.Equal(m.Image(), b) || !m.Has(at, api.MaxMem) || m.Has(at, api.MaxMem+1) {
			t.Error(at)
		}
		if got, e := m.Read(at, api.MaxMem+1); e != api.ErrRange || len(got) != 0 {
			t.Error(at, len(got), e)
		}
		if got, e := m.Read(at, math.MaxInt); e != api.ErrRange || len(got) != 0 {
			t.Error(at, len(got), e)
		}
		if e := m.Write(at, append(b, 1)); e != api.ErrRange {
			t.Error(at, e)
		}
	}
}

func TestMostRegions(t *testing.T) {
	const size = api.MaxMem / api.MaxRegions
	l := many(api.MaxRegions, 1<<32, size)
	m := newMem(t, l)
	for i, r := range l {
		if e := m.Store(r.At, 1, uint64(2*i+1)); e != api.OK {
			t.Error(r, e)
		}
		if e := m.Store(r.At+size-1, 1, uint64(2*i+2)); e != api.OK {
			t.Error(r, e)
		}
		if m.Has(r.At+size, 1) || m.Has(r.At-1, 1) || !m.Has(r.At, size) {
			t.Error(r)
		}
	}
	b := m.Image()
	if len(b) != api.MaxMem {
		t.Fatal(len(b))
	}
	for i := range l {
		if b[i*size] != byte(2*i+1) || b[(i+1)*size-1] != byte(2*i+2) {
			t.Error(i, b[i*size], b[(i+1)*size-1])
		}
	}
}

func TestImageIsInOrder(t *testing.T) {
	m := newMem(t, mixed)
	var want []byte
	for i, r := range mixed {
		b := bytes.Repeat([]byte{byte(i + 1)}, int(r.Len))
		if e := m.Write(r.At, b); e != api.OK {
			t.Error(r, e)
		}
		want = append(want, b...)
	}
	if !bytes.Equal(m.Image(), want) {
		t.Error(m.Image())
	}
}

// P2.3: what was stored last is loaded, and what is rejected changes nothing.

// modelWrite writes byte by byte to the model, if all bytes are within one of the mixed regions.
func modelWrite(model map[uint64]byte, at uint64, b []byte) api.Errno {
	if !exists(mixed, at, uint64(len(b))) {
		return api.ErrRange
	}
	for i, v := range b {
		model[at+uint64(i)] = v
	}
	return api.OK
}

func modelImage(model map[uint64]byte) []byte {
	var b []byte
	for _, r := range mixed {
		for i := range r.Len {
			b = append(b, model[r.At+i])
		}
	}
	return b
}

func TestWhatWasStoredLast(t *testing.T) {
	chance := rand.New(rand.NewSource(2))
	m, model := newMem(t, mixed), map[uint64]byte{}
	for range 20000 {
		at := mixedAddresses[chance.Intn(len(mixedAddresses))]
		b := make([]byte, 1+chance.Intn(11))
		for i := range b {
			b[i] = byte(chance.Intn(256) * chance.Intn(2))
		}
		var got, want api.Errno
		if chance.Intn(2) == 0 {
			got, want = m.Write(at, b), modelWrite(model, at, b)
		} else {
			var word [8]byte
			copy(word[:], b)
			v := uint64(0)
			for i := range word {
				v += uint64(word[i]) << (8 * i)
			}
			n := wordSizes[chance.Intn(4)]
			got, want = m.Store(at, n, v), modelWrite(model, at, word[:n])
		}
		if got != want || !bytes.Equal(m.Image(), modelImage(model)) {
			t.Fatal(at, b, got, want, m.Image(), modelImage(model))
		}
		checkLoads(t, m, model, mixedAddresses[chance.Intn(len(mixedAddresses))])
	}
}

// checkLoads holds all words at an address against the model.
func checkLoads(t *testing.T, m *Mem, model map[uint64]byte, at uint64) {
	t.Helper()
	for _, n := range wordSizes {
		want, is := uint64(0), exists(mixed, at, uint64(n))
		for i := range n {
			if is {
				want += uint64(model[at+uint64(i)]) << (8 * i)
			}
		}
		if v, e := m.Load(at, n); v != want || (e == api.OK) != is {
			t.Fatal(at, n, v, want, e)
		}
	}
}

func TestTouchingRegionsStayApart(t *testing.T) {
	m := filled(t, touching)
	before := m.Image()
	for _, c := range []struct {
		at uint64
		n  int
	}{{107, 2}, {106, 4}, {105, 4}, {101, 8}, {104, 8}, {107, 8}} {
		if v, e := m.Load(c.at, c.n); e != api.ErrRange || v != 0 {
			t.Error(c, v, e)
		}
		if e := m.Store(c.at, c.n, 0); e != api.ErrRange {
			t.Error(c, e)
		}
		if b, e := m.Read(c.at, c.n); e != api.ErrRange || len(b) != 0 {
			t.Error(c, b, e)
		}
		if e := m.Write(c.at, make([]byte, c.n)); e != api.ErrRange {
			t.Error(c, e)
		}
		if m.Has(c.at, uint64(c.n)) {
			t.Error(c)
		}
	}
	if !bytes.Equal(m.Image(), before) {
		t.Error(m.Image())
	}
}

// Rule 3: results are new memory, and arguments are neither changed nor kept.

func TestResultsAreNewMemory(t *testing.T) {
	m := filled(t, touching)
	before := m.Image()
	b, _ := m.Read(100, 4)
	again, _ := m.Read(100, 4)
	image, regions := m.Image(), m.Regions()
	for _, l := range [][]byte{b, image} {
		l = l[:cap(l)]
		for i := range l {
			l[i] = 0
		}
	}
	clear(regions[:cap(regions)])
	if !bytes.Equal(m.Image(), before) || !bytes.Equal(again, before[:4]) || !slices.Equal(m.Regions(), touching) {
		t.Error(m.Image(), again, m.Regions())
	}
}

func TestArgumentsAreNotKept(t *testing.T) {
	l := slices.Clone(mixed)
	m := newMem(t, l)
	if !slices.Equal(l, mixed) {
		t.Error(l)
	}
	clear(l)
	if !slices.Equal(m.Regions(), mixed) || !m.Has(100, 8) {
		t.Error(m.Regions())
	}
	b := []byte{1, 2, 3, 4, 5, 6}
	if e := m.Write(100, b[:3]); e != api.OK || !bytes.Equal(b, []byte{1, 2, 3, 4, 5, 6}) {
		t.Error(b, e)
	}
	clear(b)
	if e := m.Store(103, 1, 9); e != api.OK || !bytes.Equal(b, make([]byte, 6)) {
		t.Error(b, e)
	}
	if got, e := m.Read(100, 5); e != api.OK || !bytes.Equal(got, []byte{1, 2, 3, 9, 0}) {
		t.Error(got, e)
	}
}

func TestMemoriesAreApart(t *testing.T) {
	one, two := filled(t, touching), newMem(t, touching)
	before := one.Image()
	if e := two.Store(100, 8, top); e != api.OK || !bytes.Equal(one.Image(), before) {
		t.Error(e, one.Image())
	}
}
