package free

import (
	"math"
	"math/rand"
	"slices"
	"testing"

	"dumbwaiter/api"
)

// maxSize is the greatest size, as the document's table of limits has it.
const maxSize = 32768

// The numbers of the errors, as the chapter has them.
const (
	ok       = 0
	errArg   = 2
	errFull  = 7
	errThere = 9
)

var wrongSizes = []int{math.MinInt, -maxSize, -1, 0, maxSize + 1, 1<<32 + 4, math.MaxInt}

// wrongLists is lists that are not valid: of a wrong size, with a number out of range, or with one twice.
func wrongLists() []api.Free {
	l := []api.Free{
		{},
		{Size: 4, List: []int{4}},
		{Size: 4, List: []int{-1}},
		{Size: 4, List: []int{0, 1, 2, 3, 4}},
		{Size: 4, List: []int{0, 1, 2, 3, 0}},
		{Size: 4, List: []int{2, 2}},
		{Size: 4, List: []int{3, 1, 3}},
		{Size: 4, List: []int{0, math.MaxInt}},
		{Size: 4, List: []int{math.MinInt, 0}},
		{Size: 4, List: []int{1 << 32}},
		{Size: 1, List: []int{1}},
		{Size: 1, List: []int{0, 0}},
		{Size: 64, List: []int{64}},
		{Size: 65, List: []int{64, 0, 64}},
		{Size: 65, List: []int{65}},
		{Size: maxSize, List: []int{maxSize}},
		{Size: maxSize, List: []int{maxSize - 1, maxSize - 1}},
		{Size: maxSize, List: []int{-maxSize}},
	}
	for _, size := range wrongSizes {
		l = append(l, api.Free{Size: size}, api.Free{Size: size, List: []int{0}}, api.Free{Size: size, List: []int{2, 1, 0}})
	}
	return l
}

// rising is the numbers 0 to size - 1.
func rising(size int) []int {
	var l []int
	for n := 0; n < size; n++ {
		l = append(l, n)
	}
	return l
}

// twice reports whether a number occurs twice.
func twice(l []int) bool {
	l = slices.Sorted(slices.Values(l))
	return len(slices.Compact(slices.Clone(l))) < len(l)
}

// outside reports whether a number is out of range.
func outside(l []int, size int) bool {
	return slices.ContainsFunc(l, func(n int) bool { return n < 0 || n >= size })
}

// valid tells by the words of the chapter whether a list is.
func valid(f api.Free) bool {
	return f.Size >= 1 && f.Size <= maxSize && !outside(f.List, f.Size) && !twice(f.List)
}

// is reports whether a list has exactly this size and these numbers.
func is(f api.Free, size int, l []int) bool {
	return f.Size == size && slices.Equal(f.List, l)
}

// zero reports whether a list is the zero value.
func zero(f api.Free) bool { return f.Size == 0 && f.List == nil }

// allLists is all lists of a size with the numbers -1 to size, at most n of them, valid or not.
func allLists(size, n int) []api.Free {
	all := []api.Free{{Size: size}}
	for from := 0; n > 0; n-- {
		to := len(all)
		for _, f := range all[from:to] {
			for i := -1; i <= size; i++ {
				all = append(all, api.Free{Size: size, List: append(slices.Clip(f.List), i)})
			}
		}
		from = to
	}
	return all
}

// spare is a copy of some numbers with three more behind them, up to its capacity.
func spare(l []int) []int {
	s := append(slices.Clone(l), -7, -8, -9)
	return s[:len(l):len(s)]
}

// untouched reports whether numbers that spare made are as they were.
func untouched(s, before []int) bool {
	return slices.Equal(s, before) && slices.Equal(s[len(s):len(s)+3], []int{-7, -8, -9})
}

// wipe overwrites a list up to its capacity.
func wipe(l []int) {
	l = l[:cap(l)]
	for i := range l {
		l[i] = -5
	}
}

// checkTake compares Take with the words of the chapter.
func checkTake(t *testing.T, f api.Free, n int) {
	t.Helper()
	l, rest, e := Take(f, n)
	want := api.Errno(ok)
	switch {
	case !valid(f) || n < 1:
		want = errArg
	case n > len(f.List):
		want = errFull
	}
	if e != want {
		t.Errorf("Take(%v, %d) = %v, %v, %d, want error %d", f, n, l, rest, e, want)
		return
	}
	if e != ok {
		if l != nil || !zero(rest) {
			t.Errorf("Take(%v, %d) = %v, %v beside error %d", f, n, l, rest, e)
		}
		return
	}
	if !slices.Equal(l, f.List[:n]) || !is(rest, f.Size, f.List[n:]) {
		t.Errorf("Take(%v, %d) = %v, %v", f, n, l, rest)
	}
}

// checkGive compares Give with the words of the chapter.
func checkGive(t *testing.T, f api.Free, l []int) {
	t.Helper()
	g, e := Give(f, l...)
	all := slices.Concat(l, f.List)
	want := api.Errno(ok)
	switch {
	case !valid(f) || outside(l, f.Size):
		want = errArg
	case twice(all):
		want = errThere
	}
	if e != want {
		t.Errorf("Give(%v, %v) = %v, %d, want error %d", f, l, g, e, want)
		return
	}
	if e != ok && !zero(g) || e == ok && !is(g, f.Size, all) {
		t.Errorf("Give(%v, %v) = %v, %d", f, l, g, e)
	}
}

// checkAsked compares Check, Count and Is with the words of the chapter.
func checkAsked(t *testing.T, f api.Free, numbers []int) {
	t.Helper()
	e, count := api.Errno(errArg), 0
	if valid(f) {
		e, count = ok, len(f.List)
	}
	if Check(f) != e || Count(f) != count {
		t.Errorf("Check(%v) = %d, Count %d, want %d, %d", f, Check(f), Count(f), e, count)
	}
	for _, n := range numbers {
		if want := valid(f) && slices.Contains(f.List, n); Is(f, n) != want {
			t.Errorf("Is(%v, %d) = %v, want %v", f, n, !want, want)
		}
	}
}

// The numbers of api are those of the document.
func TestNumbers(t *testing.T) {
	if api.OK != ok || api.ErrArg != errArg || api.ErrFull != errFull || api.ErrThere != errThere || api.MaxSize != maxSize {
		t.Error(api.OK, api.ErrArg, api.ErrFull, api.ErrThere, api.MaxSize)
	}
}

// P8.1: New returns a list in which all are free, in ascending order.
func TestNew(t *testing.T) {
	for _, size := range []int{1, 2, 3, 4, 5, 63, 64, 65, 100, 127, 128, 129, 1000, maxSize - 1, maxSize} {
		f, e := New(size)
		if e != ok || !is(f, size, rising(size)) || Check(f) != ok || Count(f) != size {
			t.Errorf("New(%d): %d numbers, error %d", size, len(f.List), e)
		}
	}
}

// P8.1: New returns ErrArg if the size is not valid.
func TestNewWrong(t *testing.T) {
	for _, size := range wrongSizes {
		if f, e := New(size); e != errArg || !zero(f) {
			t.Errorf("New(%d) = %v, %d", size, f, e)
		}
	}
}

// P8.1: the chapter's examples.
func TestExamples(t *testing.T) {
	f, e := New(4)
	if e != ok {
		t.Fatal(e)
	}
	a, f, e := Take(f, 2)
	if e != ok || !slices.Equal(a, []int{0, 1}) || !is(f, 4, []int{2, 3}) {
		t.Error(a, f, e)
	}
	b, f, e := Take(f, 1)
	if e != ok || !slices.Equal(b, []int{2}) || !is(f, 4, []int{3}) {
		t.Error(b, f, e)
	}
	f, e = Give(f, 1, 0)
	if e != ok || !is(f, 4, []int{1, 0, 3}) {
		t.Error(f, e)
	}
	if g, e := Give(f, 3); e != errThere || !zero(g) {
		t.Error(g, e)
	}
}

// P8.1: for a list that is not valid all functions but Same return ErrArg, 0 or false, whatever else is wrong.
func TestNotValid(t *testing.T) {
	for _, f := range wrongLists() {
		if valid(f) {
			t.Fatal(f)
		}
		checkAsked(t, f, []int{math.MinInt, -1, 0, 1, 2, 3, 4, 63, 64, 65, maxSize - 1, maxSize, 1 << 32, math.MaxInt})
		for _, n := range []int{math.MinInt, -1, 0, 1, 2, maxSize, math.MaxInt} {
			checkTake(t, f, n)
		}
		for _, l := range [][]int{nil, {}, {0}, {1}, {3}, {0, 0}, {-1}, {maxSize}} {
			checkGive(t, f, l)
		}
	}
}

// P8.1: all functions on all short lists, valid or not, with all arguments that are short.
func TestAllShort(t *testing.T) {
	for size := -1; size <= 3; size++ {
		gifts := allLists(size, min(size+1, 3))
		for _, f := range allLists(size, size+1) {
			checkAsked(t, f, rising(6))
			for n := -2; n <= size+2; n++ {
				checkTake(t, f, n)
			}
			for _, l := range gifts {
				checkGive(t, f, l.List)
			}
		}
	}
}

// P8.1: the order of the errors of Take and Give.
func TestErrors(t *testing.T) {
	full := api.Free{Size: 4}
	part := api.Free{Size: 4, List: []int{3, 1}}
	for _, c := range []struct {
		f api.Free
		n int
		e api.Errno
	}{
		{full, 0, errArg},
		{full, -1, errArg},
		{full, 1, errFull},
		{part, 0, errArg},
		{part, math.MinInt, errArg},
		{part, 1, ok},
		{part, 2, ok},
		{part, 3, errFull},
		{part, 4, errFull},
		{part, 5, errFull},
		{part, math.MaxInt, errFull},
	} {
		if _, _, e := Take(c.f, c.n); e != c.e {
			t.Errorf("Take(%v, %d): error %d, want %d", c.f, c.n, e, c.e)
		}
	}
	for _, c := range []struct {
		f api.Free
		l []int
		e api.Errno
	}{
		{part, nil, ok},
		{part, []int{0}, ok},
		{part, []int{2, 0}, ok},
		{part, []int{4}, errArg},
		{part, []int{-1}, errArg},
		{part, []int{math.MaxInt}, errArg},
		{part, []int{math.MinInt}, errArg},
		{part, []int{3}, errThere},
		{part, []int{0, 1}, errThere},
		{part, []int{2, 2}, errThere},
		{part, []int{2, 0, 2}, errThere},
		{part, []int{3, 4}, errArg},     // also behind one that is free
		{part, []int{0, 0, -1}, errArg}, // and behind one that occurs twice
		{part, []int{0, 2, 0, 2, 0, 2}, errThere},
		{full, []int{3, 2, 1, 0}, ok},
		{full, []int{3, 2, 1, 0, 3}, errThere},
		{full, []int{3, 2, 1, 0, 4}, errArg},
	} {
		if _, e := Give(c.f, c.l...); e != c.e {
			t.Errorf("Give(%v, %v): error %d, want %d", c.f, c.l, e, c.e)
		}
	}
}

// P8.1: lists of many sizes, in any order, given and taken at random.
func TestRandom(t *testing.T) {
	r := rand.New(rand.NewSource(8))
	for range 3000 {
		size := 1 + r.Intn(200)
		order := r.Perm(size)
		f := api.Free{Size: size, List: order[:r.Intn(size+1)]}
		out := order[len(f.List):]
		checkAsked(t, f, []int{r.Intn(size), order[0], order[size-1], size, -1})
		checkTake(t, f, r.Intn(size+3)-1)
		gift := slices.Clone(out[:r.Intn(len(out)+1)])
		checkGive(t, f, gift)
		for range r.Intn(3) {
			gift = slices.Insert(gift, r.Intn(len(gift)+1), r.Intn(size+2)-1)
		}
		checkGive(t, f, gift)
	}
}

// P8.1: the greatest list, each of whose numbers is told from the others.
func TestGreatest(t *testing.T) {
	f, _ := New(maxSize)
	l, rest, e := Take(f, maxSize)
	if e != ok || !slices.Equal(l, rising(maxSize)) || !is(rest, maxSize, nil) || Count(rest) != 0 {
		t.Error(len(l), len(rest.List), e)
	}
	if _, _, e := Take(f, maxSize+1); e != errFull {
		t.Error(e)
	}
	slices.Reverse(l)
	f, e = Give(rest, l...)
	if e != ok || !is(f, maxSize, l) || Count(f) != maxSize {
		t.Error(len(f.List), e)
	}
	for _, n := range []int{0, 1, 31, 32, 63, 64, 65, maxSize / 2, maxSize - 64, maxSize - 1} {
		g := api.Free{Size: maxSize, List: []int{n}}
		for _, m := range []int{0, 1, 31, 32, 63, 64, 65, maxSize / 2, maxSize - 64, maxSize - 1} {
			if Is(g, m) != (m == n) {
				t.Errorf("Is(%v, %d)", g, m)
			}
			checkGive(t, g, []int{m})
		}
	}
}

// P8.1: Same tells two lists from each other by all their fields, valid or not.
func TestSame(t *testing.T) {
	l := append(wrongLists(),
		api.Free{Size: 4},
		api.Free{Size: 5},
		api.Free{Size: 4, List: []int{0}},
		api.Free{Size: 5, List: []int{0}},
		api.Free{Size: 4, List: []int{1}},
		api.Free{Size: 4, List: []int{0, 1}},
		api.Free{Size: 4, List: []int{1, 0}},
		api.Free{Size: 4, List: []int{0, 1, 2}},
	)
	for _, a := range l {
		for _, b := range l {
			if want := is(a, b.Size, b.List); Same(a, b) != want {
				t.Errorf("Same(%v, %v) = %v", a, b, !want)
			}
		}
	}
	if !Same(api.Free{Size: 4}, api.Free{Size: 4, List: []int{}}) || !Same(api.Free{}, api.Free{}) {
		t.Error("a nil list is not the same as an empty one")
	}
	if !Same(api.Free{Size: 4, List: []int{2, 1}}, api.Free{Size: 4, List: spare([]int{2, 1})}) {
		t.Error("the spare capacity was compared")
	}
}

// P8.1: a nil list and an empty one are the same as arguments.
func TestEmpty(t *testing.T) {
	f := api.Free{Size: 2, List: []int{}}
	if Check(f) != ok || Count(f) != 0 || Is(f, 0) {
		t.Error(f)
	}
	if g, e := Give(f, []int{}...); e != ok || !is(g, 2, nil) {
		t.Error(g, e)
	}
	if g, e := Give(f, 1); e != ok || !is(g, 2, []int{1}) {
		t.Error(g, e)
	}
}

// P8.1: nothing that was passed is changed, and results share no memory with it or with each other.
func TestMemory(t *testing.T) {
	for _, c := range []struct{ free, gift []int }{
		{[]int{3, 1, 4, 0}, []int{5, 2}},
		{[]int{3, 1, 4, 0}, nil},
		{[]int{3}, []int{5}},
		{nil, []int{5, 2}},
		{nil, nil},
		{[]int{0, 1, 2, 3, 4, 5}, nil},
	} {
		f := api.Free{Size: 6, List: spare(c.free)}
		gift := spare(c.gift)
		before := slices.Concat(c.gift, c.free)
		g, e := Give(f, gift...)
		if e != ok {
			t.Fatal(e)
		}
		h, _ := Give(f, gift...)
		wipe(h.List)
		if !is(g, 6, before) {
			t.Errorf("two results of Give(%v, %v) share memory", c.free, c.gift)
		}
		for n := 1; n <= len(c.free); n++ {
			l, rest, _ := Take(f, n)
			wipe(l)
			if !is(rest, 6, c.free[n:]) {
				t.Errorf("the results of Take(%v, %d) share memory", c.free, n)
			}
			l, rest, _ = Take(f, n)
			wipe(rest.List)
			if !slices.Equal(l, c.free[:n]) {
				t.Errorf("the results of Take(%v, %d) share memory", c.free, n)
			}
			wipe(l)
		}
		wipe(g.List)
		if !untouched(f.List, c.free) || !untouched(gift, c.gift) {
			t.Errorf("Give(%v, %v) or Take shares memory with its arguments", c.free, c.gift)
		}
	}
}

// P8.1: also beside an error nothing that was passed is changed, and lists of New share no memory.
func TestMemoryOfErrors(t *testing.T) {
	l, gift := spare([]int{3, 1}), spare([]int{0, 2, 0})
	f := api.Free{Size: 4, List: l}
	Give(f, gift...)
	Take(f, 3)
	Take(f, 0)
	Check(f)
	Count(f)
	Is(f, 1)
	Same(f, f)
	if !untouched(l, []int{3, 1}) || !untouched(gift, []int{0, 2, 0}) {
		t.Error(l, gift)
	}
	a, _ := New(4)
	b, _ := New(4)
	wipe(a.List)
	if !is(b, 4, rising(4)) {
		t.Error(b)
	}
}

// P8.2: Give undoes Take.
func TestUndo(t *testing.T) {
	r := rand.New(rand.NewSource(82))
	for range 2000 {
		size := 1 + r.Intn(100)
		f := api.Free{Size: size, List: r.Perm(size)[:1+r.Intn(size)]}
		l, rest, e := Take(f, 1+r.Intn(len(f.List)))
		if e != ok {
			t.Fatal(e)
		}
		if g, e := Give(rest, l...); e != ok || !Same(f, g) {
			t.Errorf("Give(%v, %v) = %v, %d, not %v", rest, l, g, e, f)
		}
	}
}

// P8.2: no number is taken twice without having been given back in between; Count and the number of those taken add up to the size.
func TestOnceEach(t *testing.T) {
	r := rand.New(rand.NewSource(83))
	for range 100 {
		size := 1 + r.Intn(130)
		f, _ := New(size)
		taken := map[int]bool{}
		for range 200 {
			if r.Intn(2) == 0 {
				l, rest, e := Take(f, 1+r.Intn(size))
				for _, n := range l {
					if taken[n] {
						t.Fatalf("%d was taken twice", n)
					}
					taken[n] = true
				}
				if e == ok {
					f = rest
				}
			} else {
				f = giveBack(t, r, f, taken)
			}
			if Count(f)+len(taken) != size || Check(f) != ok {
				t.Fatalf("%d are free, %d are taken, of %d", Count(f), len(taken), size)
			}
			for n := range size {
				if Is(f, n) == taken[n] {
					t.Fatalf("Is(%v, %d) = %v", f, n, taken[n])
				}
			}
		}
	}
}

// giveBack gives some of those that are taken back, in any order.
func giveBack(t *testing.T, r *rand.Rand, f api.Free, taken map[int]bool) api.Free {
	t.Helper()
	var l []int
	for n := range f.Size {
		if taken[n] && r.Intn(2) == 0 {
			l = append(l, n)
			delete(taken, n)
		}
	}
	r.Shuffle(len(l), func(i, j int) { l[i], l[j] = l[j], l[i] })
	g, e := Give(f, l...)
	if e != ok {
		t.Fatalf("Give(%v, %v): error %d", f, l, e)
	}
	return g
}
