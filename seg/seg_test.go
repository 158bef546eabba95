package seg

import (
	"bytes"
	"math"
	"math/big"
	"math/rand"
	"slices"
	"testing"

	"dumbwaiter/api"
	"dumbwaiter/gmem"
)

const (
	top     = math.MaxUint64
	longest = math.MaxUint32
)

// The regions that most tests use: two that touch, one apart from them, and both ends of the addresses.
var regions = []api.Region{{At: 0, Len: 4}, {At: 100, Len: 60}, {At: 160, Len: 40}, {At: 300, Len: 1}, {At: top - 9, Len: 10}}

// read and write return a segment of their kind.
func read(at uint64, n uint32) api.Seg  { return api.Seg{At: at, Len: n} }
func write(at uint64, n uint32) api.Seg { return api.Seg{At: at, Len: n, Write: true} }

// list returns a list of segments with spare capacity that no result may show.
func list(l ...api.Seg) []api.Seg {
	return append(slices.Clone(l), write(7777, 7), read(8888, 8))[:len(l)]
}

// many returns that many times the same segment.
func many(n int, s api.Seg) []api.Seg { return slices.Repeat([]api.Seg{s}, n) }

// join returns all segments of some lists.
func join(l ...[]api.Seg) []api.Seg { return slices.Concat(l...) }

// memory returns a memory with these regions, whose bytes differ from their neighbours and are not 0.
func memory(t *testing.T, l []api.Region) *gmem.Mem {
	t.Helper()
	m, e := gmem.New(l)
	if e != api.OK {
		t.Fatal(l, e)
	}
	v := byte(0)
	for _, r := range l {
		b := make([]byte, r.Len)
		for i := range b {
			v = v%251 + 1
			b[i] = v
		}
		if e := m.Write(r.At, b); e != api.OK {
			t.Fatal(r, e)
		}
	}
	return m
}

// load returns a byte of the memory.
func load(t *testing.T, m *gmem.Mem, at uint64) byte {
	t.Helper()
	v, e := m.Load(at, 1)
	if e != api.OK {
		t.Fatal(at, e)
	}
	return byte(v)
}

// unmade is memories that gmem.New did not return.
func unmade(t *testing.T) map[string]*gmem.Mem {
	copied := *memory(t, regions)
	return map[string]*gmem.Mem{"nil": nil, "zero": {}, "copied": &copied}
}

// place is a byte of a buffer: where it is, and whether it may be written.
type place struct {
	at    uint64
	write bool
}

// places is all bytes of all segments, one after the other.
func places(l []api.Seg) []place {
	var p []place
	for _, s := range l {
		for i := range uint64(s.Len) {
			p = append(p, place{s.At + i, s.Write})
		}
	}
	return p
}

// valid tells whether a buffer is valid by the words of the chapter, with numbers that have no end.
func valid(l []api.Seg) bool {
	space, limit := new(big.Int).Lsh(big.NewInt(1), 64), big.NewInt(1<<32)
	sum := new(big.Int)
	for i, s := range l {
		n := big.NewInt(int64(s.Len))
		end := new(big.Int).Add(new(big.Int).SetUint64(s.At), n)
		if n.Sign() == 0 || end.Cmp(space) > 0 {
			return false
		}
		for _, before := range l[:i] {
			if before.Write && !s.Write {
				return false
			}
		}
		sum.Add(sum, n)
	}
	return len(l) <= 64 && sum.Cmp(limit) < 0
}

// someSegs returns a valid buffer within the regions, of up to that many segments, which may overlap.
func someSegs(rnd *rand.Rand, most int) []api.Seg {
	var l []api.Seg
	border := rnd.Intn(most + 1)
	for i := range rnd.Intn(most + 1) {
		r := regions[rnd.Intn(len(regions))]
		off := uint64(rnd.Intn(int(r.Len)))
		n := uint32(1 + rnd.Intn(min(int(r.Len-off), 9)))
		l = append(l, api.Seg{At: r.At + off, Len: n, Write: i >= border})
	}
	return l
}

// wrong is buffers that are not valid, with their errors.
var wrong = map[string]struct {
	l []api.Seg
	e api.Errno
}{
	"one too many":               {many(65, read(100, 1)), api.ErrLong},
	"one too many, written":      {many(65, write(100, 1)), api.ErrLong},
	"twice too many":             {many(128, read(100, 1)), api.ErrLong},
	"far too many":               {many(1<<16, read(100, 1)), api.ErrLong},
	"too many, without bytes":    {make([]api.Seg, 65), api.ErrLong},
	"too many, beyond 2^64":      {many(65, read(top, 2)), api.ErrLong},
	"too many bytes and numbers": {many(65, read(0, longest)), api.ErrLong},
	"too many, in wrong order":   {join(many(33, write(100, 1)), many(32, read(100, 1))), api.ErrLong},
	"no byte":                    {list(read(100, 0)), api.ErrArg},
	"no byte, written":           {list(write(100, 0)), api.ErrArg},
	"no byte at 0":               {list(api.Seg{}), api.ErrArg},
	"no byte at the top":         {list(read(top, 0)), api.ErrArg},
	"no byte first":              {list(read(100, 0), read(101, 1)), api.ErrArg},
	"no byte in the middle":      {list(read(100, 1), write(101, 0), write(102, 1)), api.ErrArg},
	"no byte last":               {list(read(100, 1), write(101, 0)), api.ErrArg},
	"no byte in the last of 64":  {join(many(63, read(100, 1)), many(1, read(100, 0))), api.ErrArg},
	"one byte beyond 2^64":       {list(read(top, 2)), api.ErrArg},
	"ten, one beyond 2^64":       {list(write(top-8, 10)), api.ErrArg},
	"second beyond 2^64":         {list(read(100, 1), read(top-1, 3)), api.ErrArg},
	"first beyond 2^64":          {list(read(top-1, 3), write(100, 1)), api.ErrArg},
	"longest beyond 2^64":        {list(read(top-longest+2, longest)), api.ErrArg},
	"longest from the top":       {list(read(top, longest)), api.ErrArg},
	"written before read":        {list(write(100, 1), read(101, 1)), api.ErrArg},
	"written between read":       {list(read(100, 1), write(101, 1), read(102, 1)), api.ErrArg},
	"a read one at the end":      {join(many(63, write(100, 1)), many(1, read(100, 1))), api.ErrArg},
	"written, read, written":     {list(write(100, 1), read(101, 1), write(102, 1)), api.ErrArg},
	"sum of 2^32 in two":         {list(read(0, 1<<31), read(0, 1<<31)), api.ErrArg},
	"sum of 2^32 in both kinds":  {list(read(0, 1<<31), write(0, 1<<31)), api.ErrArg},
	"sum of 2^32 by one byte":    {list(read(0, longest), write(0, 1)), api.ErrArg},
	"sum of 2^32 in 64":          {many(64, read(0, 1<<26)), api.ErrArg},
	"sum of 2^32 + 1":            {list(read(0, longest), read(0, 2)), api.ErrArg},
	"sum of 2^33":                {many(4, write(0, 1<<31)), api.ErrArg},
	"greatest sum":               {many(64, read(0, longest)), api.ErrArg},
}

// right is buffers that are valid.
var right = map[string][]api.Seg{
	"none":                     nil,
	"none, not nil":            {},
	"one byte":                 list(read(100, 1)),
	"one byte, written":        list(write(100, 1)),
	"one byte at 0":            list(read(0, 1)),
	"the last byte":            list(read(top, 1)),
	"to 2^64":                  list(write(top-9, 10)),
	"longest":                  list(read(0, longest)),
	"longest to 2^64":          list(write(top-longest+1, longest)),
	"both kinds":               list(read(100, 1), write(101, 1)),
	"more of both":             list(read(100, 1), read(90, 1), write(101, 1), write(80, 1)),
	"only written":             list(write(100, 1), write(101, 1)),
	"as many as there may be":  many(64, read(100, 1)),
	"as many, written":         many(64, write(100, 1)),
	"as many of both":          join(many(63, read(100, 1)), many(1, write(100, 1))),
	"sum below 2^32":           list(read(0, 1<<31), read(0, 1<<31-1)),
	"sum below 2^32, of both":  list(read(0, 1<<31), write(0, 1<<31-1)),
	"sum below 2^32, by one":   list(read(0, longest-1), write(0, 1)),
	"sum below 2^32, of 64":    join(many(63, read(0, 1<<26)), many(1, read(0, 1<<26-1))),
	"the same twice":           list(read(100, 4), read(100, 4)),
	"read and written overlap": list(read(100, 4), write(102, 4)),
	"falling":                  list(read(200, 4), read(100, 4), write(50, 2), write(40, 1)),
}

// P5.1: Check.

func TestCheck(t *testing.T) {
	for name, l := range right {
		if e := Check(l); e != api.OK {
			t.Error(name, e)
		}
		if !valid(l) {
			t.Error(name, "is not valid by the model")
		}
	}
	for name, c := range wrong {
		if e := Check(c.l); e != c.e {
			t.Error(name, e)
		}
		if valid(c.l) {
			t.Error(name, "is valid by the model")
		}
	}
}

func TestCheckExample(t *testing.T) {
	if e := Check([]api.Seg{{At: 1, Len: 1, Write: true}, {At: 9, Len: 1}}); e != api.ErrArg {
		t.Error(e)
	}
}

func TestCheckNumbers(t *testing.T) {
	for n := range 200 {
		want := api.Errno(api.OK)
		if n > 64 {
			want = api.ErrLong
		}
		if e := Check(many(n, read(5, 1))); e != want {
			t.Error(n, e)
		}
	}
}

// All orders of up to 7 segments that are read or written.
func TestCheckOrders(t *testing.T) {
	for n := range 8 {
		for bits := range 1 << n {
			var l []api.Seg
			for i := range n {
				l = append(l, api.Seg{At: uint64(i), Len: 1, Write: bits>>i&1 == 1})
			}
			if e := Check(l); (e == api.OK) != valid(l) || e != api.OK && e != api.ErrArg {
				t.Error(l, e)
			}
		}
	}
}

// Segments around 2^64, whose sum is around 2^32, against the model.
func TestCheckModel(t *testing.T) {
	rnd := rand.New(rand.NewSource(5))
	lens := []uint32{1, 2, 3, 1 << 16, 1 << 31, 1<<31 - 1, 1<<31 - 2, longest - 2, longest - 1, longest}
	count := [2]int{}
	for range 100000 {
		var l []api.Seg
		border := rnd.Intn(4)
		for i := range rnd.Intn(4) {
			s := api.Seg{Len: lens[rnd.Intn(len(lens))], Write: i >= border}
			s.At = []uint64{0, -uint64(s.Len), 1 << 63, rnd.Uint64()}[rnd.Intn(4)] + uint64(rnd.Intn(3)-1)
			l = append(l, s)
		}
		is := valid(l)
		if e := Check(l); (e == api.OK) != is || !is && e != api.ErrArg {
			t.Fatal(l, e)
		}
		if is {
			count[1]++
		} else {
			count[0]++
		}
	}
	if count[0] < 1000 || count[1] < 1000 {
		t.Error(count)
	}
}

// P5.1: In.

func TestIn(t *testing.T) {
	m := memory(t, regions)
	for _, c := range []struct {
		l []api.Seg
		e api.Errno
	}{
		{nil, api.OK},
		{[]api.Seg{}, api.OK},
		{list(read(100, 1)), api.OK},
		{list(read(100, 60), write(160, 40)), api.OK},
		{list(read(0, 4), read(100, 1), write(300, 1), write(top-9, 10)), api.OK},
		{list(write(top, 1)), api.OK},
		{list(read(0, 5)), api.ErrRange},
		{list(read(99, 1)), api.ErrRange},
		{list(read(99, 2)), api.ErrRange},
		{list(write(199, 2)), api.ErrRange},
		{list(read(200, 1)), api.ErrRange},
		// The two regions touch, but a segment is within one.
		{list(read(159, 2)), api.ErrRange},
		{list(read(100, 100)), api.ErrRange},
		{list(read(300, 2)), api.ErrRange},
		{list(read(top-10, 1)), api.ErrRange},
		{list(read(top-10, 11)), api.ErrRange},
		{list(read(0, longest)), api.ErrRange},
		{list(read(100, 1), read(99, 1), write(101, 1)), api.ErrRange},
		{list(read(99, 1), read(100, 1), write(101, 1)), api.ErrRange},
		{list(read(100, 1), read(101, 1), write(99, 1)), api.ErrRange},
		{list(read(100, 1), write(101, 1), write(299, 1)), api.ErrRange},
		{many(64, write(110, 20)), api.OK},
		{join(many(63, write(110, 20)), many(1, write(190, 11))), api.ErrRange},
	} {
		before := m.Image()
		if e := In(m, c.l); e != c.e {
			t.Error(c.l, e)
		}
		if !bytes.Equal(m.Image(), before) {
			t.Error(c.l, "was changed")
		}
	}
}

func TestInWithoutBytes(t *testing.T) {
	m := memory(t, nil)
	if e := In(m, nil); e != api.OK {
		t.Error(e)
	}
	if e := In(m, list(read(0, 1))); e != api.ErrRange {
		t.Error(e)
	}
}

// Whatever needs a memory returns the first error that applies, nothing else, and changes nothing.
func wantError(t *testing.T, m *gmem.Mem, l []api.Seg, want api.Errno) {
	t.Helper()
	before := m.Image()
	if e := In(m, l); e != want {
		t.Error("In", e, want)
	}
	if b, e := Gather(m, l); e != want || len(b) != 0 {
		t.Error("Gather", b, e, want)
	}
	for _, b := range [][]byte{nil, {1}, bytes.Repeat([]byte{9}, 300)} {
		if n, e := Scatter(m, l, b); e != want || n != 0 {
			t.Error("Scatter", n, e, want)
		}
	}
	if !bytes.Equal(m.Image(), before) {
		t.Error("was changed")
	}
}

func TestNoMemory(t *testing.T) {
	for _, m := range unmade(t) {
		for _, l := range right {
			wantError(t, m, l, api.ErrNil)
		}
		for _, c := range wrong {
			wantError(t, m, c.l, api.ErrNil)
		}
		wantError(t, m, list(read(99, 1)), api.ErrNil)
	}
}

func TestWrongBuffers(t *testing.T) {
	for _, m := range []*gmem.Mem{memory(t, regions), memory(t, nil), memory(t, []api.Region{{At: 50, Len: 1000}})} {
		for _, c := range wrong {
			wantError(t, m, c.l, c.e)
		}
	}
}

// Segments that do not exist are an error of the whole, also if they are of the other kind, or would get no byte.
func TestMissingSegments(t *testing.T) {
	m := memory(t, regions)
	for _, l := range [][]api.Seg{
		list(read(99, 1)),
		list(read(100, 5), read(198, 3), write(150, 4)),
		list(read(100, 5), read(150, 9), write(158, 4)),
		list(read(199, 2), write(100, 5)),
		list(read(100, 5), write(110, 1), write(120, 1), write(200, 1)),
		list(write(110, 5), write(top-10, 2)),
	} {
		wantError(t, m, l, api.ErrRange)
	}
}

// P5.1: Total.

func TestTotal(t *testing.T) {
	for _, c := range []struct {
		l           []api.Seg
		read, write uint64
	}{
		{nil, 0, 0},
		{[]api.Seg{}, 0, 0},
		{list(read(100, 7)), 7, 0},
		{list(write(100, 7)), 0, 7},
		{list(read(10, 3), read(50, 2), write(100, 4), write(90, 2)), 5, 6},
		{list(read(0, longest)), longest, 0},
		{list(write(0, longest)), 0, longest},
		{list(read(0, 1<<31), write(0, 1<<31-1)), 1 << 31, 1<<31 - 1},
		{list(read(5, 1<<31), read(9, 1<<31-2), write(0, 1)), longest - 1, 1},
		{many(64, read(100, 3)), 192, 0},
		{join(many(60, read(100, 3)), many(4, write(100, 5))), 180, 20},
		// Bytes count as often as they are in segments.
		{list(read(100, 4), read(100, 4), read(102, 4), write(100, 4)), 12, 4},
	} {
		if r, w := Total(c.l); r != c.read || w != c.write {
			t.Error(c.l, r, w)
		}
	}
	for name, c := range wrong {
		if r, w := Total(c.l); r != 0 || w != 0 {
			t.Error(name, r, w)
		}
	}
}

// P5.1: Gather.

func TestGather(t *testing.T) {
	m, e := gmem.New([]api.Region{{At: 0, Len: 200}, {At: 200, Len: 56}, {At: top - 3, Len: 4}})
	if e != api.OK {
		t.Fatal(e)
	}
	for i := range uint64(256) {
		m.Store(i, 1, i)
	}
	m.Write(top-3, []byte("wxyz"))
	before := m.Image()
	for _, c := range []struct {
		l    []api.Seg
		want []byte
	}{
		{nil, nil},
		{[]api.Seg{}, nil},
		{list(write(10, 3)), nil},
		{list(read(10, 1)), []byte{10}},
		{list(read(10, 3), read(50, 2), write(100, 4)), []byte{10, 11, 12, 50, 51}},
		{list(read(50, 2), read(10, 3)), []byte{50, 51, 10, 11, 12}},
		{list(read(10, 3), read(13, 2)), []byte{10, 11, 12, 13, 14}},
		{list(read(10, 3), read(11, 3), read(10, 3), write(11, 3)), []byte{10, 11, 12, 11, 12, 13, 10, 11, 12}},
		{list(read(199, 1), read(200, 1)), []byte{199, 200}},
		{list(read(top-3, 4), read(0, 1), write(top, 1)), []byte{'w', 'x', 'y', 'z', 0}},
		{many(64, read(255, 1)), bytes.Repeat([]byte{255}, 64)},
	} {
		if b, e := Gather(m, c.l); e != api.OK || !bytes.Equal(b, c.want) {
			t.Error(c.l, b, e)
		}
	}
	if !bytes.Equal(m.Image(), before) {
		t.Error("was changed")
	}
}

// All the memory, as often as a buffer may have segments.
func TestGatherMost(t *testing.T) {
	m := memory(t, []api.Region{{At: 9, Len: api.MaxMem}})
	b, e := Gather(m, many(64, read(9, api.MaxMem)))
	if e != api.OK || len(b) != 64*api.MaxMem {
		t.Fatal(len(b), e)
	}
	image := m.Image()
	for i := range 64 {
		if !bytes.Equal(b[i*api.MaxMem:(i+1)*api.MaxMem], image) {
			t.Error(i)
		}
	}
}

func TestGatheredIsNewMemory(t *testing.T) {
	m := memory(t, regions)
	before := m.Image()
	l := list(read(100, 8), read(120, 8), write(130, 2))
	b, _ := Gather(m, l)
	again, _ := Gather(m, l)
	want := slices.Clone(again)
	clear(b[:cap(b)])
	if !bytes.Equal(m.Image(), before) || !bytes.Equal(again, want) {
		t.Error(m.Image(), again)
	}
	single, _ := Gather(m, l[:1])
	clear(single[:cap(single)])
	if !bytes.Equal(m.Image(), before) {
		t.Error(m.Image())
	}
}

// P5.1: Scatter.

func TestScatter(t *testing.T) {
	for _, c := range []struct {
		l    []api.Seg
		b    string
		n    int
		want string
	}{
		{nil, "abc", 0, "........"},
		{[]api.Seg{}, "", 0, "........"},
		{list(read(10, 4)), "abc", 0, "........"},
		{list(write(10, 4)), "", 0, "........"},
		{list(write(10, 4)), "a", 1, "a......."},
		{list(write(10, 4)), "abc", 3, "abc....."},
		{list(write(10, 4)), "abcd", 4, "abcd...."},
		{list(write(10, 4)), "abcde", 4, "abcd...."},
		{list(write(10, 1)), "abcde", 1, "a......."},
		{list(write(14, 3), write(10, 2)), "ab", 2, "....ab.."},
		{list(write(14, 3), write(10, 2)), "abc", 3, "....abc."},
		{list(write(14, 3), write(10, 2)), "abcd", 4, "d...abc."},
		{list(write(14, 3), write(10, 2)), "abcde", 5, "de..abc."},
		{list(write(14, 3), write(10, 2)), "abcdefgh", 5, "de..abc."},
		{list(read(10, 8), write(12, 2), write(16, 1)), "abcd", 3, "..ab..c."},
		{list(write(11, 1), write(13, 1), write(15, 1)), "abc", 3, ".a.b.c.."},
		// Of segments that overlap, the last one that gets a byte has it.
		{list(write(10, 4), write(12, 4)), "abcdefgh", 8, "abefgh.."},
		{list(write(10, 4), write(12, 4)), "abcde", 5, "abed...."},
		{list(write(12, 4), write(10, 4)), "abcdefgh", 8, "efghcd.."},
		{list(write(10, 4), write(10, 4)), "abcdef", 6, "efcd...."},
		{list(write(10, 8), write(13, 1)), "abcdefghi", 9, "abciefgh"},
	} {
		m, _ := gmem.New([]api.Region{{At: 8, Len: 12}})
		m.Write(8, []byte("<<........>>"))
		b := []byte(c.b + "!?")[:len(c.b)]
		if n, e := Scatter(m, c.l, b); n != c.n || e != api.OK {
			t.Error(c, n, e)
		}
		if got := string(m.Image()); got != "<<"+c.want+">>" {
			t.Error(c, got)
		}
		if s := string(b[:len(b)+2]); s != c.b+"!?" {
			t.Error(c, s)
		}
	}
}

func TestScatterEnds(t *testing.T) {
	m := memory(t, regions)
	want := m.Image()
	l := list(write(top, 1), write(0, 4), write(159, 1), write(160, 1), write(top-9, 1))
	if n, e := Scatter(m, l, []byte("abcdefgh")); n != 8 || e != api.OK {
		t.Error(n, e)
	}
	copy(want, "bcde")
	copy(want[4+59:], "fg")
	want[len(want)-1], want[len(want)-10] = 'a', 'h'
	if !bytes.Equal(m.Image(), want) {
		t.Error(m.Image())
	}
}

func TestScatterMost(t *testing.T) {
	m := memory(t, []api.Region{{At: 9, Len: api.MaxMem}})
	image := m.Image()
	slices.Reverse(image)
	l := many(64, write(9, api.MaxMem))
	if n, e := Scatter(m, l, append(slices.Repeat(image, 64), 1, 2)); n != 64*api.MaxMem || e != api.OK {
		t.Error(n, e)
	}
	if !bytes.Equal(m.Image(), image) {
		t.Error("is not what was written")
	}
}

func TestScatteredIsNotKept(t *testing.T) {
	m := memory(t, regions)
	b := []byte("abcdef")
	l := list(write(100, 4), write(110, 2))
	Scatter(m, l, b)
	want := m.Image()
	clear(b)
	clear(l)
	if !bytes.Equal(m.Image(), want) {
		t.Error(m.Image())
	}
}

// P5.2: Part.

func TestPart(t *testing.T) {
	for _, c := range []struct{ read, write []api.Seg }{
		{nil, nil},
		{list(read(100, 1)), nil},
		{nil, list(write(100, 1))},
		{list(read(200, 3), read(100, 1)), list(write(7, 9), write(7, 9), write(1, 2))},
		{list(read(0, longest)), nil},
		{many(64, read(4, 2)), nil},
		{many(30, read(4, 2)), many(34, write(5, 2))},
	} {
		l := join(c.read, c.write)
		if got := Part(l, false); !slices.Equal(got, c.read) {
			t.Error(l, got)
		}
		if got := Part(l, true); !slices.Equal(got, c.write) {
			t.Error(l, got)
		}
	}
}

// P5.2: Cut.

func TestCut(t *testing.T) {
	two := list(read(10, 4), read(50, 6))
	mixed := list(read(10, 3), read(50, 2), write(100, 4), write(90, 2))
	end := list(write(top-9, 10))
	long := list(read(5, 1<<31), write(7, 1<<31-1))
	for _, c := range []struct {
		l       []api.Seg
		from, n uint64
		want    []api.Seg
	}{
		{nil, 0, 0, nil},
		{nil, 0, 5, nil},
		{[]api.Seg{}, 3, top, nil},
		{two, 2, 5, list(read(12, 2), read(50, 3))},
		{two, 0, 10, two},
		{two, 0, 11, two},
		{two, 0, top, two},
		{two, 0, 0, nil},
		{two, 3, 0, nil},
		{two, 4, 0, nil},
		{two, 0, 1, list(read(10, 1))},
		{two, 0, 3, list(read(10, 3))},
		{two, 0, 4, list(read(10, 4))},
		{two, 0, 5, list(read(10, 4), read(50, 1))},
		{two, 0, 9, list(read(10, 4), read(50, 5))},
		{two, 1, 2, list(read(11, 2))},
		{two, 1, 3, list(read(11, 3))},
		{two, 3, 1, list(read(13, 1))},
		{two, 3, 2, list(read(13, 1), read(50, 1))},
		{two, 4, 1, list(read(50, 1))},
		{two, 4, 6, list(read(50, 6))},
		{two, 5, 2, list(read(51, 2))},
		{two, 5, 5, list(read(51, 5))},
		{two, 5, 6, list(read(51, 5))},
		{two, 5, top, list(read(51, 5))},
		{two, 9, 1, list(read(55, 1))},
		{two, 9, top, list(read(55, 1))},
		{two, 10, 1, nil},
		{two, 11, 1, nil},
		{two, top, 1, nil},
		{two, top, top, nil},
		{two, top - 2, 5, nil},
		{mixed, 2, 5, list(read(12, 1), read(50, 2), write(100, 2))},
		{mixed, 5, 4, list(write(100, 4))},
		{mixed, 6, 5, list(write(101, 3), write(90, 2))},
		{mixed, 4, 100, list(read(51, 1), write(100, 4), write(90, 2))},
		{end, 9, 1, list(write(top, 1))},
		{end, 1, 9, list(write(top-8, 9))},
		{end, 1, 8, list(write(top-8, 8))},
		{end, 10, 1, nil},
		{long, 1<<31 - 1, 2, list(read(1<<31+4, 1), write(7, 1))},
		{long, 1<<32 - 2, 2, list(write(7+1<<31-2, 1))},
		{long, 1<<32 - 1, 2, nil},
		{long, 1 << 32, 2, nil},
		{long, 1, 1 << 32, list(read(6, 1<<31-1), write(7, 1<<31-1))},
		{long, 0, 1<<32 + 1, long},
		{list(read(0, longest)), 1, longest, list(read(1, longest-1))},
		{many(64, write(100, 2)), 1, 126, join(many(1, write(101, 1)), many(62, write(100, 2)), many(1, write(100, 1)))},
	} {
		if got := Cut(c.l, c.from, c.n); !slices.Equal(got, c.want) {
			t.Error(c, got)
		}
	}
}

func TestPartsOfWrongBuffers(t *testing.T) {
	for name, c := range wrong {
		for _, write := range []bool{false, true} {
			if l := Part(c.l, write); len(l) != 0 {
				t.Error(name, l)
			}
		}
		for _, from := range []uint64{0, 1, 70, top} {
			for _, n := range []uint64{0, 1, 70, top} {
				if l := Cut(c.l, from, n); len(l) != 0 {
					t.Error(name, from, n, l)
				}
			}
		}
	}
}

func TestPartsAreNewMemory(t *testing.T) {
	l := list(read(10, 4), read(50, 6), write(100, 4), write(120, 9))
	all := l[:cap(l)]
	want := slices.Clone(all)
	for _, got := range [][]api.Seg{Part(l, false), Part(l, true), Cut(l, 0, 23), Cut(l, 0, 10), Cut(l, 2, 5), Cut(l, 4, 10), Cut(l, 1, top), Part(l[:2], false), Part(l[2:], true)} {
		if len(got) == 0 {
			t.Error("nothing was returned")
		}
		clear(got[:cap(got)])
		if !slices.Equal(all, want) {
			t.Fatal(all)
		}
	}
}

func TestArgumentsAreNotChanged(t *testing.T) {
	m := memory(t, regions)
	l := list(read(100, 4), read(120, 6), write(130, 4), write(140, 9))
	all := l[:cap(l)]
	want := slices.Clone(all)
	Check(l)
	In(m, l)
	Total(l)
	Gather(m, l)
	Scatter(m, l, []byte("abcdef"))
	Part(l, true)
	Part(l, false)
	Cut(l, 2, 5)
	Cut(l, 7, 9)
	Same(l, l)
	if !slices.Equal(all, want) {
		t.Error(all)
	}
}

// P5.2: Same.

func TestSame(t *testing.T) {
	lists := [][]api.Seg{
		nil,
		{read(10, 4)},
		{write(10, 4)},
		{read(11, 4)},
		{read(10, 5)},
		{read(10, 4), read(14, 1)},
		{read(14, 1), read(10, 4)},
		{read(10, 4), write(14, 1)},
		{read(10, 4), read(14, 1), read(14, 1)},
		{read(10, 4), read(10, 4)},
		// Any lists can be compared.
		{{}},
		{{}, {}},
		many(65, read(10, 4)),
		many(66, read(10, 4)),
		append(many(64, read(10, 4)), write(10, 4)),
		{write(top, longest)},
		{read(top, longest)},
	}
	for i, a := range lists {
		for j, b := range lists {
			if is := Same(a, slices.Clone(b)); is != (i == j) {
				t.Error(a, b, is)
			}
		}
	}
	if !Same(nil, []api.Seg{}) || !Same([]api.Seg{}, nil) || !Same([]api.Seg{}, []api.Seg{}) {
		t.Error("no segments are not the same as none")
	}
	if a := list(read(10, 4), read(14, 1)); Same(a, a[:1]) || Same(a[:1], a) || !Same(a[:1], []api.Seg{read(10, 4)}) {
		t.Error("spare capacity was compared")
	}
}

// P5.3: the theorems.

// Each writable byte has what was scattered to it last, and no other one is changed; what is readable is gathered byte by byte.
func TestScatteredIsThere(t *testing.T) {
	rnd := rand.New(rand.NewSource(53))
	for range 20000 {
		m := memory(t, regions)
		l := someSegs(rnd, 8)
		b := make([]byte, rnd.Intn(60))
		rnd.Read(b)
		model := map[uint64]byte{}
		for _, p := range places([]api.Seg{read(0, 4), read(100, 100), read(300, 1), read(top-9, 10)}) {
			model[p.at] = load(t, m, p.at)
		}
		want := 0
		for _, p := range places(l) {
			if p.write && want < len(b) {
				model[p.at] = b[want]
				want++
			}
		}
		if n, e := Scatter(m, l, b); n != want || e != api.OK {
			t.Fatal(l, len(b), n, e)
		}
		var readable []byte
		for _, p := range places(l) {
			if !p.write {
				readable = append(readable, model[p.at])
			}
		}
		if got, e := Gather(m, l); e != api.OK || !bytes.Equal(got, readable) {
			t.Fatal(l, got, readable, e)
		}
		for at, v := range model {
			if got := load(t, m, at); got != v {
				t.Fatal(l, b, at, got, v)
			}
		}
	}
}

// What was scattered into segments that do not overlap is gathered from them.
func TestScatteredIsGathered(t *testing.T) {
	rnd := rand.New(rand.NewSource(54))
	for range 2000 {
		m := memory(t, regions)
		var l []api.Seg
		for at := uint64(100 + rnd.Intn(3)); ; at += uint64(rnd.Intn(3)) {
			n := uint64(1 + rnd.Intn(7))
			if at+n > 160 {
				break
			}
			l = append(l, write(at, uint32(n)))
			at += n
		}
		rnd.Shuffle(len(l), func(i, j int) { l[i], l[j] = l[j], l[i] })
		b := make([]byte, len(places(l)))
		rnd.Read(b)
		if n, e := Scatter(m, l, b); n != len(b) || e != api.OK {
			t.Fatal(l, n, e)
		}
		for i := range l {
			l[i].Write = false
		}
		if got, e := Gather(m, l); e != api.OK || !bytes.Equal(got, b) {
			t.Fatal(l, got, b, e)
		}
	}
}

// Each cut has exactly the bytes of its range, in valid segments of which each is within one of the buffer's.
func TestCutModel(t *testing.T) {
	rnd := rand.New(rand.NewSource(55))
	for range 300 {
		l := someSegs(rnd, 5)
		all := places(l)
		for from := range len(all) + 3 {
			for n := range len(all) + 3 {
				want := all[min(from, len(all)):min(from+n, len(all))]
				got := Cut(l, uint64(from), uint64(n))
				if !slices.Equal(places(got), want) || !valid(got) {
					t.Fatal(l, from, n, got)
				}
				if len(got) != touched(l, from, from+n) {
					t.Fatal(l, from, n, got, "has too many segments")
				}
			}
		}
	}
}

// touched returns how many segments have a byte from one on, and before another one.
func touched(l []api.Seg, from, to int) int {
	n, first := 0, 0
	for _, s := range l {
		next := first + int(s.Len)
		if max(first, from) < min(next, to) {
			n++
		}
		first = next
	}
	return n
}

func TestConsecutiveCuts(t *testing.T) {
	rnd := rand.New(rand.NewSource(56))
	for range 20000 {
		l := someSegs(rnd, 8)
		all := len(places(l))
		from, n, more := uint64(rnd.Intn(all+2)), uint64(rnd.Intn(all+2)), uint64(rnd.Intn(all+2))
		whole := Cut(l, from, n+more)
		both := join(Cut(l, from, n), Cut(l, from+n, more))
		if !slices.Equal(places(whole), places(both)) {
			t.Fatal(l, from, n, more, whole, both)
		}
		// A cut of a cut is a cut.
		if again := Cut(whole, n, more); !Same(again, Cut(l, from+n, more)) {
			t.Fatal(l, from, n, more, again)
		}
	}
}
