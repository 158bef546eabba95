package serial

import (
	"math"
	"testing"

	"dumbwaiter/api"
)

// The sizes that the tests go through: the edges, odd ones, and powers of 2.
var sizes = []int{1, 2, 3, 4, 5, 7, 8, 255, 256, api.MaxSize - 1, api.MaxSize}

// The small sizes, for which the tests go through all positions.
var small = []int{1, 2, 3, 4, 5, 7, 8}

var wrongSizes = []int{math.MinInt, -api.MaxSize, -1, 0, api.MaxSize + 1, 1 << 16, math.MaxInt}

// place is the number of steps by which Start must be advanced to reach p, below 2 * size: a model that knows no wrap counter.
func place(p api.Pos, size int) int {
	if p.Wrap {
		return p.At
	}
	return p.At + size
}

// at is the position that is that number of steps away from Start.
func at(steps, size int) api.Pos {
	steps %= 2 * size
	return api.Pos{At: steps % size, Wrap: steps < size}
}

// all is all positions of a ring of that size.
func all(size int) []api.Pos {
	var l []api.Pos
	for i := range 2 * size {
		l = append(l, at(i, size))
	}
	return l
}

// wrongPositions is positions that are not valid in a ring of that size.
func wrongPositions(size int) []api.Pos {
	var l []api.Pos
	for _, i := range []int{math.MinInt, -size, -1, size, size + 1, 2 * size, 1 << 16, math.MaxInt} {
		l = append(l, api.Pos{At: i}, api.Pos{At: i, Wrap: true})
	}
	return l
}

// passed walks from old up to the one before next, and reports whether it meets the event.
func passed(event, next, old uint16) bool {
	for i := old; i != next; i++ {
		if i == event {
			return true
		}
	}
	return false
}

// P1.1: Dist.

func TestDist(t *testing.T) {
	for _, c := range []struct{ a, b, want uint16 }{
		{2, 65535, 3},
		{65535, 2, 65533},
		{0, 0, 0},
		{65535, 65535, 0},
		{0, 65535, 1},
		{65535, 0, 65535},
		{7, 3, 4},
		{3, 7, 65532},
		{32768, 0, 32768},
		{0, 32768, 32768},
	} {
		if d := Dist(c.a, c.b); d != c.want {
			t.Errorf("Dist(%d, %d) = %d, not %d", c.a, c.b, d, c.want)
		}
	}
}

// P1.1: Need.

func TestNeed(t *testing.T) {
	for _, c := range []struct {
		event, next, old uint16
		want             bool
	}{
		{65535, 2, 65534, true},
		{1, 1, 65535, false},
		{65534, 2, 65534, true},
		{1, 2, 65534, true},
		{2, 2, 65534, false},
		{65533, 2, 65534, false},
		{5, 6, 5, true},
		{6, 6, 5, false},
		{4, 6, 5, false},
		{9, 9, 9, false},
		{0, 9, 9, false},
		{32777, 9, 9, false},
		{10, 9, 10, true},
		{9, 9, 10, false},
		{8, 9, 10, true},
	} {
		if is := Need(c.event, c.next, c.old); is != c.want {
			t.Errorf("Need(%d, %d, %d) = %v", c.event, c.next, c.old, is)
		}
	}
}

func TestNeedIsWhatWasPassed(t *testing.T) {
	for _, old := range []uint16{0, 1, 32767, 32768, 65530, 65535} {
		for by := range uint16(12) {
			next := old + by
			for off := -20; off < 20; off++ {
				event := uint16(int(old) + off)
				if is := Need(event, next, old); is != passed(event, next, old) {
					t.Errorf("Need(%d, %d, %d) = %v", event, next, old, is)
				}
			}
		}
	}
}

// P1.1: Start and Check.

func TestStart(t *testing.T) {
	if p := Start(); p != (api.Pos{At: 0, Wrap: true}) {
		t.Error(p)
	}
	for _, size := range sizes {
		if e := Check(Start(), size); e != api.OK {
			t.Error(size, e)
		}
	}
}

func TestCheck(t *testing.T) {
	for _, size := range sizes {
		for _, i := range []int{0, size / 2, size - 1} {
			for _, wrap := range []bool{false, true} {
				if e := Check(api.Pos{At: i, Wrap: wrap}, size); e != api.OK {
					t.Error(size, i, wrap, e)
				}
			}
		}
		for _, p := range wrongPositions(size) {
			if e := Check(p, size); e != api.ErrArg {
				t.Error(size, p, e)
			}
		}
	}
	for _, size := range wrongSizes {
		for _, i := range []int{math.MinInt, -1, 0, 1, size, size - 1} {
			if e := Check(api.Pos{At: i, Wrap: true}, size); e != api.ErrArg {
				t.Error(size, i, e)
			}
		}
	}
}

// P1.1: Go.

func TestGo(t *testing.T) {
	for _, c := range []struct {
		p        api.Pos
		by, size int
		want     api.Pos
	}{
		{api.Pos{At: 2, Wrap: true}, 3, 4, api.Pos{At: 1}},
		{api.Pos{At: 2, Wrap: true}, 0, 4, api.Pos{At: 2, Wrap: true}},
		{api.Pos{At: 2, Wrap: true}, 1, 4, api.Pos{At: 3, Wrap: true}},
		{api.Pos{At: 2, Wrap: true}, 2, 4, api.Pos{At: 0}},
		{api.Pos{At: 2, Wrap: true}, 4, 4, api.Pos{At: 2}},
		{api.Pos{At: 2}, 4, 4, api.Pos{At: 2, Wrap: true}},
		{api.Pos{At: 3}, 1, 4, api.Pos{At: 0, Wrap: true}},
		{api.Pos{At: 0}, 1, 1, api.Pos{At: 0, Wrap: true}},
		{api.Pos{At: 32767, Wrap: true}, 32768, 32768, api.Pos{At: 32767}},
		{api.Pos{At: 32767}, 1, 32768, api.Pos{At: 0, Wrap: true}},
	} {
		if p, e := Go(c.p, c.by, c.size); e != api.OK || p != c.want {
			t.Error(c, p, e)
		}
	}
}

func TestGoIsSteps(t *testing.T) {
	for _, size := range small {
		for _, p := range all(size) {
			for by := range size + 1 {
				if n, e := Go(p, by, size); e != api.OK || n != at(place(p, size)+by, size) {
					t.Error(size, p, by, n, e)
				}
			}
		}
	}
}

func TestGoRejects(t *testing.T) {
	check := func(p api.Pos, by, size int) {
		if n, e := Go(p, by, size); e != api.ErrArg || n != (api.Pos{}) {
			t.Error(p, by, size, n, e)
		}
	}
	for _, size := range sizes {
		for _, by := range []int{math.MinInt, -size, -1, size + 1, 2 * size, math.MaxInt} {
			check(Start(), by, size)
			check(api.Pos{At: size - 1, Wrap: true}, by, size)
		}
		for _, p := range wrongPositions(size) {
			check(p, 0, size)
			check(p, 1, size)
			check(p, size, size)
		}
	}
	for _, size := range wrongSizes {
		check(Start(), 0, size)
		check(Start(), size, size)
	}
}

// P1.1: Word and Read.

func TestWord(t *testing.T) {
	for _, c := range []struct {
		p    api.Pos
		want uint16
	}{
		{api.Pos{At: 0, Wrap: true}, 0x8000},
		{api.Pos{At: 0}, 0},
		{api.Pos{At: 1}, 1},
		{api.Pos{At: 0x1234, Wrap: true}, 0x9234},
		{api.Pos{At: 32767, Wrap: true}, 0xffff},
		{api.Pos{At: 32767}, 0x7fff},
		{api.Pos{At: 32768}, 0},
		{api.Pos{At: 32769, Wrap: true}, 0x8001},
		{api.Pos{At: 65535}, 0x7fff},
		{api.Pos{At: 65536, Wrap: true}, 0x8000},
		{api.Pos{At: -1}, 0x7fff},
		{api.Pos{At: -1, Wrap: true}, 0xffff},
		{api.Pos{At: math.MaxInt}, 0x7fff},
		{api.Pos{At: math.MinInt, Wrap: true}, 0x8000},
	} {
		if w := Word(c.p); w != c.want {
			t.Errorf("Word(%v) = %#x, not %#x", c.p, w, c.want)
		}
	}
}

func TestReadAllWords(t *testing.T) {
	for _, size := range sizes {
		for i := range 1 << 16 {
			w := uint16(i)
			p, e := Read(w, size)
			if i%api.MaxSize >= size {
				if e != api.ErrBad || p != (api.Pos{}) {
					t.Fatal(size, i, p, e)
				}
				continue
			}
			if e != api.OK || p != (api.Pos{At: i % api.MaxSize, Wrap: i >= api.MaxSize}) {
				t.Fatal(size, i, p, e)
			}
			if Word(p) != w {
				t.Fatal(size, i, p, Word(p))
			}
		}
	}
}

func TestReadRejectsSizeFirst(t *testing.T) {
	for _, size := range wrongSizes {
		for _, w := range []uint16{0, 1, 32767, 32768, 65535} {
			if p, e := Read(w, size); e != api.ErrArg || p != (api.Pos{}) {
				t.Error(size, w, p, e)
			}
		}
	}
}

// P1.1: NeedAt.

func TestNeedAt(t *testing.T) {
	for _, c := range []struct {
		event, next api.Pos
		by, size    int
		want        bool
	}{
		{api.Pos{At: 3, Wrap: true}, api.Pos{At: 0}, 1, 4, true},
		{api.Pos{At: 3}, api.Pos{At: 0}, 1, 4, false},
		{api.Pos{At: 2, Wrap: true}, api.Pos{At: 0}, 1, 4, false},
		{api.Pos{At: 0}, api.Pos{At: 0}, 1, 4, false},
		{api.Pos{At: 0, Wrap: true}, api.Pos{At: 0}, 4, 4, true},
		{api.Pos{At: 0, Wrap: true}, api.Pos{At: 0}, 3, 4, false},
		{api.Pos{At: 3, Wrap: true}, api.Pos{At: 0}, 0, 4, false},
		{api.Pos{At: 1}, api.Pos{At: 2}, 3, 4, true},
		{api.Pos{At: 1, Wrap: true}, api.Pos{At: 2}, 3, 4, false},
		{api.Pos{At: 3, Wrap: true}, api.Pos{At: 2}, 3, 4, true},
		{api.Pos{At: 32767, Wrap: true}, api.Pos{At: 32767}, 32768, 32768, true},
		{api.Pos{At: 32767, Wrap: true}, api.Pos{At: 32767}, 32767, 32768, false},
		{api.Pos{At: 0, Wrap: true}, api.Pos{At: 32767}, 32768, 32768, false},
		{api.Pos{At: 0}, api.Pos{At: 32767}, 32767, 32768, true},
	} {
		if is, e := NeedAt(c.event, c.next, c.by, c.size); e != api.OK || is != c.want {
			t.Error(c, is, e)
		}
	}
}

func TestNeedAtIsWhatWasPassed(t *testing.T) {
	for _, size := range small {
		for _, old := range all(size) {
			for by := range size + 1 {
				next := at(place(old, size)+by, size)
				met := map[api.Pos]bool{}
				for i := range by {
					met[at(place(old, size)+i, size)] = true
				}
				for _, event := range all(size) {
					if is, e := NeedAt(event, next, by, size); e != api.OK || is != met[event] {
						t.Error(size, event, next, by, is, e)
					}
				}
			}
		}
	}
}

func TestNeedAtRejects(t *testing.T) {
	check := func(event, next api.Pos, by, size int) {
		if is, e := NeedAt(event, next, by, size); e != api.ErrArg || is {
			t.Error(event, next, by, size, is, e)
		}
	}
	for _, size := range sizes {
		for _, p := range wrongPositions(size) {
			check(p, Start(), 1, size)
			check(Start(), p, 1, size)
			check(p, p, 1, size)
		}
		for _, by := range []int{math.MinInt, -1, size + 1, 2 * size, 1 << 16, math.MaxInt} {
			check(Start(), api.Pos{At: 0}, by, size)
		}
	}
	for _, size := range wrongSizes {
		check(Start(), Start(), 0, size)
		check(Start(), api.Pos{At: 0}, size, size)
	}
}

// P1.1: Between.

func TestBetween(t *testing.T) {
	for _, c := range []struct {
		a, b       api.Pos
		size, want int
	}{
		{api.Pos{At: 2, Wrap: true}, api.Pos{At: 1}, 4, 3},
		{api.Pos{At: 1}, api.Pos{At: 2, Wrap: true}, 4, 5},
		{api.Pos{At: 2, Wrap: true}, api.Pos{At: 2, Wrap: true}, 4, 0},
		{api.Pos{At: 2, Wrap: true}, api.Pos{At: 2}, 4, 4},
		{api.Pos{At: 2}, api.Pos{At: 1}, 4, 7},
		{api.Pos{At: 0}, api.Pos{At: 3, Wrap: true}, 4, 7},
		{api.Pos{At: 0}, api.Pos{At: 0, Wrap: true}, 1, 1},
		{api.Pos{At: 1}, api.Pos{At: 0}, 32768, 65535},
		{api.Pos{At: 0, Wrap: true}, api.Pos{At: 32767}, 32768, 65535},
	} {
		if n, e := Between(c.a, c.b, c.size); e != api.OK || n != c.want {
			t.Error(c, n, e)
		}
	}
}

func TestBetweenRejects(t *testing.T) {
	check := func(a, b api.Pos, size int) {
		if n, e := Between(a, b, size); e != api.ErrArg || n != 0 {
			t.Error(a, b, size, n, e)
		}
	}
	for _, size := range sizes {
		for _, p := range wrongPositions(size) {
			check(p, Start(), size)
			check(Start(), p, size)
			check(p, p, size)
		}
	}
	for _, size := range wrongSizes {
		check(Start(), Start(), size)
	}
}

// P1.2: Power and Align.

func TestPower(t *testing.T) {
	powers := map[int]bool{}
	for i := range 16 {
		powers[1<<i] = true
	}
	for n := -70000; n <= 140000; n++ {
		if Power(n) != powers[n] {
			t.Error(n, Power(n))
		}
	}
	for _, n := range []int{math.MinInt, math.MinInt + 1, 1 << 30, 1 << 62, math.MaxInt} {
		if Power(n) {
			t.Error(n)
		}
	}
}

func TestAlign(t *testing.T) {
	const top = math.MaxUint64
	for _, c := range []struct{ n, to, want uint64 }{
		{4097, 4096, 8192},
		{4096, 4096, 4096},
		{4095, 4096, 4096},
		{1, 4096, 4096},
		{0, 4096, 0},
		{0, 1, 0},
		{17, 1, 17},
		{17, 2, 18},
		{100, 16, 112},
		{top, 1, top},
		{top - 1, 2, top - 1},
		{top - 2, 2, top - 1},
		{top - 15, 16, top - 15},
		{top - 16, 16, top - 15},
		{0, 1 << 63, 0},
		{1, 1 << 63, 1 << 63},
		{1 << 63, 1 << 63, 1 << 63},
	} {
		if a, e := Align(c.n, c.to); e != api.OK || a != c.want {
			t.Error(c, a, e)
		}
	}
}

func TestAlignIsTheSmallest(t *testing.T) {
	for n := range uint64(70) {
		for to := uint64(1); to <= 64; to *= 2 {
			want := n
			for want%to != 0 {
				want++
			}
			if a, e := Align(n, to); e != api.OK || a != want {
				t.Error(n, to, a, e)
			}
		}
	}
}

func TestAlignRejects(t *testing.T) {
	const top = math.MaxUint64
	for _, c := range []struct{ n, to uint64 }{
		{0, 0},
		{1, 0},
		{top, 0},
		{0, 3},
		{6, 3},
		{12, 6},
		{12, 12},
		{1, top},
		{0, 1<<63 + 1},
		{0, 1<<63 + 1<<62},
		{top, 2},
		{top, 4096},
		{top - 4094, 4096},
		{top - 14, 16},
		{1<<63 + 1, 1 << 63},
		{top, 1 << 63},
	} {
		if a, e := Align(c.n, c.to); e != api.ErrArg || a != 0 {
			t.Error(c, a, e)
		}
	}
}

// P1.3: the theorems.

func TestNeedCounts(t *testing.T) {
	for _, c := range []struct{ next, old uint16 }{
		{0, 0}, {1, 0}, {0, 1}, {2, 65534}, {65535, 0}, {0, 65535}, {32768, 0}, {7, 32775}, {40000, 39000}, {39000, 40000},
	} {
		n := 0
		for event := range 1 << 16 {
			if Need(uint16(event), c.next, c.old) {
				n++
			}
		}
		if n != int(Dist(c.next, c.old)) {
			t.Error(c, n)
		}
	}
}

func TestGoInParts(t *testing.T) {
	for _, size := range sizes {
		for _, p := range []api.Pos{Start(), {At: 0}, {At: size / 2, Wrap: true}, {At: size - 1}, {At: size - 1, Wrap: true}} {
			for _, total := range []int{0, 1, size / 3, size / 2, size - 1, size} {
				want, e := Go(p, total, size)
				if e != api.OK {
					t.Fatal(size, p, total, e)
				}
				for _, first := range []int{0, total / 4, total / 2, total} {
					n, _ := Go(p, first, size)
					n, e := Go(n, total-first, size)
					if e != api.OK || n != want {
						t.Error(size, p, total, first, n, e)
					}
				}
			}
			lap, _ := Go(p, size, size)
			if lap != (api.Pos{At: p.At, Wrap: !p.Wrap}) {
				t.Error(size, p, lap)
			}
			if n, e := Go(lap, size, size); e != api.OK || n != p {
				t.Error(size, p, n, e)
			}
		}
	}
}

func TestBetweenIsHowMuchToGo(t *testing.T) {
	for _, size := range small {
		for _, a := range all(size) {
			for by := range 2 * size {
				first := min(by, size)
				b, _ := Go(a, first, size)
				b, _ = Go(b, by-first, size)
				if n, e := Between(a, b, size); e != api.OK || n != by {
					t.Error(size, a, b, n, e)
				}
			}
		}
	}
}

// T6: a call depends on its arguments alone.

func TestSameCallSameResult(t *testing.T) {
	p := api.Pos{At: 3, Wrap: true}
	for range 3 {
		if n, e := Go(p, 3, 5); e != api.OK || n != (api.Pos{At: 1}) || p != (api.Pos{At: 3, Wrap: true}) {
			t.Error(p, n, e)
		}
		if is, e := NeedAt(p, api.Pos{At: 1}, 3, 5); e != api.OK || !is {
			t.Error(is, e)
		}
	}
}
