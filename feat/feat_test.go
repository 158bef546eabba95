package feat

import (
	"math"
	"math/bits"
	"math/rand"
	"slices"
	"testing"

	"dumbwaiter/api"
)

const (
	net  = 1
	blk  = 2
	cons = 3

	full = math.MaxUint64
)

var (
	kinds      = []int{net, blk, cons}
	wrongKinds = []int{math.MinInt, -3, -2, -1, 0, 4, 5, 7, 64, 1 << 32, 1<<32 + 1, math.MaxInt}
	wrongBits  = []int{math.MinInt, math.MinInt + 1, -65, -64, -63, -2, -1, 64, 65, 127, 128, 1 << 32, math.MaxInt}
)

// The bits by the numbers of the chapter: those for all devices, and those of each kind.
var (
	eachBits = []int{28, 29, 32, 34, 35, 40}
	kindBits = map[int][]int{
		net:  {0, 1, 5, 15, 16, 17, 18, 19, 22, 23},
		blk:  {5, 9, 12, 13, 14},
		cons: {0, 1, 2},
	}
)

// required is what each bit of a net device requires, by the numbers of the chapter; the bits of the other kinds require nothing.
var required = map[int][]int{18: {17}, 19: {17}, 22: {17}, 23: {17, 5}}

// set is the set of some bits.
func set(l ...int) uint64 {
	s := uint64(0)
	for _, b := range l {
		s |= 1 << b
	}
	return s
}

// bitsOf is the bits that a set of the kind may have.
func bitsOf(kind int) []int { return slices.Concat(eachBits, kindBits[kind]) }

// known tells by the words of the chapter whether a set has only bits of its kind.
func known(kind int, s uint64) bool {
	l := kindBits[kind]
	for b := range 64 {
		if s>>b&1 == 1 && !slices.Contains(eachBits, b) && !slices.Contains(l, b) {
			return false
		}
	}
	return len(l) > 0
}

// closed tells by the words of the chapter whether a set is closed.
func closed(kind int, s uint64) bool {
	if !known(kind, s) || s>>32&1 == 0 {
		return false
	}
	if kind != net {
		return true
	}
	for b, l := range required {
		for _, r := range l {
			if s>>b&1 == 1 && s>>r&1 == 0 {
				return false
			}
		}
	}
	return true
}

// subsets goes through all subsets of a set.
func subsets(all uint64) func(func(uint64) bool) {
	return func(yield func(uint64) bool) {
		for s := all; ; s = (s - 1) & all {
			if !yield(s) || s == 0 {
				return
			}
		}
	}
}

// someSets is sets that the wrong inputs are tried with.
func someSets() []uint64 {
	l := []uint64{0, full, 1 << 63, full - 1, set(32), set(32, 17), ^set(32), full &^ set(17)}
	for _, k := range kinds {
		l = append(l, set(bitsOf(k)...))
	}
	for b := range 64 {
		l = append(l, 1<<b, set(32, b))
	}
	return l
}

// P6.1: All.

func TestAll(t *testing.T) {
	for kind, want := range map[int]uint64{
		net:  0x0000_010d_30cf_8023,
		blk:  0x0000_010d_3000_7220,
		cons: 0x0000_010d_3000_0007,
	} {
		if s := All(kind); s != want || s != set(bitsOf(kind)...) {
			t.Errorf("%d: %x, not %x", kind, s, want)
		}
	}
	for _, kind := range wrongKinds {
		if s := All(kind); s != 0 {
			t.Errorf("%d: %x", kind, s)
		}
	}
}

// The kinds and bits that api names are those of the chapter.
func TestNumbers(t *testing.T) {
	if api.KindNet != net || api.KindBlk != blk || api.KindCons != cons {
		t.Error(api.KindNet, api.KindBlk, api.KindCons)
	}
	for _, c := range []struct{ got, want []int }{
		{[]int{api.FeatTable, api.FeatEvent, api.FeatV1, api.FeatPacked, api.FeatOrder, api.FeatReset}, eachBits},
		{[]int{api.NetSum, api.NetGuestSum, api.NetMac, api.NetMerge, api.NetStatus, api.NetCtrl, api.NetCtrlRx, api.NetVlan, api.NetMQ, api.NetSetMac}, kindBits[net]},
		{[]int{api.BlkRO, api.BlkFlush, api.BlkMQ, api.BlkDiscard, api.BlkZeroes}, kindBits[blk]},
		{[]int{api.ConsSize, api.ConsPorts, api.ConsEmerg}, kindBits[cons]},
	} {
		if !slices.Equal(c.got, c.want) {
			t.Error(c.got, c.want)
		}
	}
}

// P6.1: Known.

func TestKnown(t *testing.T) {
	for _, kind := range kinds {
		all := set(bitsOf(kind)...)
		if !Known(kind, 0) || !Known(kind, all) || Known(kind, full) {
			t.Error(kind, Known(kind, 0), Known(kind, all), Known(kind, full))
		}
		for b := range 64 {
			is := slices.Contains(bitsOf(kind), b)
			for _, s := range []uint64{1 << b, all | 1<<b, 1<<b | 1<<32} {
				if Known(kind, s) != is {
					t.Errorf("%d %d %x: %t", kind, b, s, !is)
				}
			}
			if !Known(kind, all&^(1<<b)) {
				t.Error(kind, b)
			}
		}
	}
}

func TestWrongKinds(t *testing.T) {
	for _, kind := range wrongKinds {
		for _, s := range someSets() {
			if Known(kind, s) || Closed(kind, s) {
				t.Errorf("%d %x: %t %t", kind, s, Known(kind, s), Closed(kind, s))
			}
			if n := Needs(kind, s); n != 0 {
				t.Errorf("%d %x: needs %x", kind, s, n)
			}
			for _, offer := range []uint64{0, s, full, set(32)} {
				if Accept(kind, offer, s) {
					t.Errorf("%d %x %x: accepted", kind, offer, s)
				}
				if best, e := Best(kind, offer, s); best != 0 || e != api.ErrArg {
					t.Errorf("%d %x %x: %x %d", kind, offer, s, best, e)
				}
			}
		}
	}
}

// P6.1: Closed.

func TestClosed(t *testing.T) {
	for _, c := range []struct {
		kind int
		set  uint64
		want bool
	}{
		{net, 0, false}, {blk, 0, false}, {cons, 0, false},
		{net, full, false}, {blk, full, false}, {cons, full, false},
		{net, set(32), true}, {blk, set(32), true}, {cons, set(32), true},
		{net, set(bitsOf(net)...), true}, {blk, set(bitsOf(blk)...), true}, {cons, set(bitsOf(cons)...), true},
		{net, set(bitsOf(net)...) &^ set(32), false}, {blk, set(bitsOf(blk)...) &^ set(32), false}, {cons, set(bitsOf(cons)...) &^ set(32), false},
		{net, set(32, 28, 29, 34, 35, 40), true}, {blk, set(32, 28, 29, 34, 35, 40), true}, {cons, set(32, 28, 29, 34, 35, 40), true},
		// The examples of the chapter.
		{net, set(32, 19), false}, {net, set(32, 19, 17), true},
		{net, set(32, 18), false}, {net, set(32, 18, 17), true},
		{net, set(32, 22), false}, {net, set(32, 22, 17), true},
		{net, set(32, 23), false}, {net, set(32, 23, 17), false}, {net, set(32, 23, 5), false}, {net, set(32, 23, 17, 5), true},
		{net, set(23, 17, 5), false}, {net, set(19, 17), false},
		{net, set(32, 18, 19, 22), false}, {net, set(32, 17, 18, 19, 22), true}, {net, set(32, 17, 18, 19, 22, 23), false},
		{net, set(32, 17), true}, {net, set(32, 5), true}, {net, set(32, 0, 1, 15, 16), true},
		{net, set(32, 63), false}, {net, set(32, 2), false}, {net, set(32, 12), false},
		// The bits of other kinds: a net device's, but for the number that both have, and back.
		{blk, set(32, 17), false}, {blk, set(32, 19), false}, {blk, set(32, 17, 19), false}, {blk, set(32, 0), false}, {blk, set(32, 5), true},
		{blk, set(32, 9), true}, {blk, set(32, 12), true}, {blk, set(32, 13), true}, {blk, set(32, 14), true}, {blk, set(32, 5, 9, 12, 13, 14), true},
		{cons, set(32, 1), true}, {cons, set(32, 0), true}, {cons, set(32, 2), true}, {cons, set(32, 5), false}, {cons, set(32, 17), false},
		{cons, set(1), false},
	} {
		if Closed(c.kind, c.set) != c.want {
			t.Errorf("%d %x: %t", c.kind, c.set, !c.want)
		}
	}
}

// All known sets of all kinds, also with a bit that is not known.
func TestClosedModel(t *testing.T) {
	for _, kind := range kinds {
		count := 0
		for s := range subsets(set(bitsOf(kind)...)) {
			is := closed(kind, s)
			if Closed(kind, s) != is || !Known(kind, s) {
				t.Fatalf("%d %x: %t %t", kind, s, !is, Known(kind, s))
			}
			if is {
				count++
			}
			for _, b := range []int{3, 20, 33, 63} {
				if o := s | 1<<b; Closed(kind, o) || Known(kind, o) || Accept(kind, full, o) {
					t.Fatalf("%d %x", kind, o)
				}
			}
		}
		// Of the six bits that a net device's rules speak of, 26 sets are closed; the others but FeatV1 are free.
		if want := map[int]int{net: 26 << 9, blk: 1 << 10, cons: 1 << 8}[kind]; count != want {
			t.Error(kind, count, want)
		}
	}
}

// P6.1: Accept.

func TestAccept(t *testing.T) {
	for _, c := range []struct {
		kind       int
		offer, set uint64
		want       bool
	}{
		{net, set(32), set(32), true},
		{net, 0, 0, false},
		{net, full, 0, false},
		{net, full, full, false},
		{net, full, set(32), true},
		{net, full, set(bitsOf(net)...), true},
		{net, 0, set(32), false},
		{net, full &^ set(32), set(32), false},
		{net, set(32, 17, 19), set(32, 17, 19), true},
		{net, set(32, 17, 19), set(32, 17), true},
		{net, set(32, 17, 19), set(32), true},
		{net, set(32, 17, 19), set(32, 19), false},
		{net, set(32, 17, 19), set(17, 19), false},
		// The set is closed, and the offer lacks what it requires, or all else.
		{net, set(32, 19), set(32, 17, 19), false},
		{net, set(32, 17), set(32, 17, 19), false},
		{net, set(32), set(32, 0), false},
		{net, set(32, 5), set(32, 0), false},
		// An offer need be neither closed nor known.
		{net, set(32, 19), set(32), true},
		{net, set(32, 63), set(32), true},
		{net, set(32, 63), set(32, 63), false},
		{blk, set(32, 9), set(32, 9), true},
		{blk, set(32, 17), set(32, 17), false},
		{blk, set(32, 13), set(32, 9), false},
		{cons, set(32, 1), set(32, 1), true},
		{cons, set(32, 0), set(32, 1), false},
	} {
		if Accept(c.kind, c.offer, c.set) != c.want {
			t.Errorf("%d %x %x: %t", c.kind, c.offer, c.set, !c.want)
		}
	}
}

func TestAcceptModel(t *testing.T) {
	rnd := rand.New(rand.NewSource(6))
	for _, kind := range kinds {
		count := [2]int{}
		all := set(bitsOf(kind)...)
		for s := range subsets(all) {
			for _, offer := range []uint64{s, full, s | rnd.Uint64(), s &^ (1 << rnd.Intn(64)), rnd.Uint64(), all &^ (1 << rnd.Intn(64))} {
				want := closed(kind, s) && s&offer == s
				if Accept(kind, offer, s) != want {
					t.Fatalf("%d %x %x: %t", kind, offer, s, !want)
				}
				if want {
					count[1]++
				} else {
					count[0]++
				}
			}
		}
		if count[0] < 300 || count[1] < 300 {
			t.Error(kind, count)
		}
	}
}

// P6.1: Needs.

func TestNeeds(t *testing.T) {
	for _, c := range []struct {
		kind      int
		set, want uint64
	}{
		{net, 0, set(32)}, {blk, 0, set(32)}, {cons, 0, set(32)},
		{net, set(32), 0}, {blk, set(32), 0}, {cons, set(32), 0},
		{net, set(bitsOf(net)...), 0}, {net, set(kindBits[net]...), set(32)},
		{net, set(32, 18), set(17)}, {net, set(18), set(17, 32)}, {net, set(17, 18), set(32)}, {net, set(17, 18, 32), 0},
		{net, set(32, 19), set(17)}, {net, set(32, 22), set(17)}, {net, set(22), set(17, 32)},
		{net, set(32, 23), set(17, 5)}, {net, set(32, 23, 5), set(17)}, {net, set(32, 23, 17), set(5)}, {net, set(23), set(32, 17, 5)}, {net, set(32, 23, 17, 5), 0},
		{net, set(18, 19, 22, 23), set(32, 17, 5)},
		{blk, set(5, 9), set(32)}, {cons, set(1), set(32)}, {cons, set(0, 1, 2, 32), 0},
		// Not known.
		{net, full, 0}, {net, set(2), 0}, {net, set(63), 0}, {net, set(19, 9), 0}, {net, set(32, 23, 33), 0},
		{blk, full, 0}, {blk, set(17), 0}, {blk, set(19), 0}, {blk, set(23, 32), 0},
		{cons, full, 0}, {cons, set(5), 0}, {cons, set(18), 0},
	} {
		if n := Needs(c.kind, c.set); n != c.want {
			t.Errorf("%d %x: %x, not %x", c.kind, c.set, n, c.want)
		}
	}
}

// P6.1: Best.

func TestBest(t *testing.T) {
	for _, c := range []struct {
		kind              int
		offer, want, best uint64
	}{
		// The example of the chapter.
		{net, set(32, 22), full, set(32)},
		{net, set(32, 22), set(32, 22, 17), set(32)},
		{net, set(32), 0, set(32)},
		{net, set(32), full, set(32)},
		{net, full, full, set(bitsOf(net)...)},
		{blk, full, full, set(bitsOf(blk)...)},
		{cons, full, full, set(bitsOf(cons)...)},
		{net, full, 0, set(32)},
		{blk, full, 0, set(32)},
		{cons, full, 0, set(32)},
		{net, full, set(32), set(32)},
		// What is required must be wanted, too.
		{net, full, set(19), set(32)},
		{net, full, set(19, 17), set(32, 17, 19)},
		{net, full, set(18), set(32)},
		{net, full, set(18, 17), set(32, 17, 18)},
		{net, full, set(22), set(32)},
		{net, full, set(22, 17), set(32, 17, 22)},
		{net, full, set(23), set(32)},
		{net, full, set(23, 5), set(32, 5)},
		{net, full, set(23, 17), set(32, 17)},
		{net, full, set(23, 17, 5), set(32, 5, 17, 23)},
		// The offer lacks what a bit that is wanted requires.
		{net, set(32, 18, 19, 22, 23, 5), full, set(32, 5)},
		{net, set(32, 17, 18, 19, 22, 23), full, set(32, 17, 18, 19, 22)},
		{net, set(32, 23, 0), full, set(32, 0)},
		{net, full, full &^ set(17), set(bitsOf(net)...) &^ set(17, 18, 19, 22, 23)},
		{net, full, full &^ set(5), set(bitsOf(net)...) &^ set(5, 23)},
		{net, full &^ set(17), full, set(bitsOf(net)...) &^ set(17, 18, 19, 22, 23)},
		{net, full &^ set(5), full, set(bitsOf(net)...) &^ set(5, 23)},
		// Bits of no device, or of other kinds.
		{net, set(32, 63, 2, 0), full, set(32, 0)},
		{blk, set(32, 17, 19, 9), full, set(32, 9)},
		{blk, full, set(17, 9, 5), set(32, 9, 5)},
		{cons, set(32, 1), set(1), set(32, 1)},
		{cons, full, set(1, 5), set(32, 1)},
		{blk, set(32, 28, 29, 9), set(29, 34, 13), set(32, 29)},
	} {
		if best, e := Best(c.kind, c.offer, c.want); best != c.best || e != api.OK {
			t.Errorf("%d %x %x: %x %d, not %x", c.kind, c.offer, c.want, best, e, c.best)
		}
	}
}

func TestBestWithoutV1(t *testing.T) {
	for _, kind := range kinds {
		for _, offer := range someSets() {
			offer &^= set(32)
			for _, want := range []uint64{0, set(32), offer, full} {
				if best, e := Best(kind, offer, want); best != 0 || e != api.ErrArg {
					t.Errorf("%d %x %x: %x %d", kind, offer, want, best, e)
				}
			}
		}
	}
}

// P6.2.

func TestHas(t *testing.T) {
	for b := range 64 {
		if Has(0, b) || !Has(full, b) || !Has(1<<b, b) || Has(full&^(1<<b), b) {
			t.Error(b, Has(0, b), Has(full, b), Has(1<<b, b), Has(full&^(1<<b), b))
		}
		for o := range 64 {
			if Has(1<<b, o) != (o == b) {
				t.Error(b, o)
			}
		}
	}
	for _, b := range wrongBits {
		for _, s := range []uint64{0, 1, 1 << 63, full} {
			if Has(s, b) {
				t.Error(s, b)
			}
		}
	}
}

func TestWith(t *testing.T) {
	for _, c := range []struct {
		set  uint64
		bits []int
		want uint64
	}{
		{0, nil, 0},
		{0, []int{}, 0},
		{full, nil, full},
		{1 << 40, nil, 1 << 40},
		{0, []int{0}, 1},
		{0, []int{63}, 1 << 63},
		{0, []int{5}, 32},
		{0, []int{5, 5}, 32},
		{0, []int{63, 63, 63}, 1 << 63},
		{32, []int{5}, 32},
		{1 << 32, []int{0, 63, 17}, 1<<63 | 1<<32 | 1<<17 | 1},
		{full, []int{0, 1, 63}, full},
		// Bits of no device are bits, too.
		{0, []int{2, 3, 62}, 1<<62 | 12},
	} {
		if s, e := With(c.set, c.bits...); s != c.want || e != api.OK {
			t.Errorf("%x %d: %x %d", c.set, c.bits, s, e)
		}
	}
	all := make([]int, 64)
	for b := range all {
		all[b] = b
		if s, e := With(1<<20, b); s != 1<<20|1<<b || e != api.OK {
			t.Errorf("%d: %x %d", b, s, e)
		}
	}
	if s, e := With(0, all...); s != full || e != api.OK {
		t.Errorf("%x %d", s, e)
	}
}

func TestWithWrongBits(t *testing.T) {
	for _, b := range wrongBits {
		for _, l := range [][]int{{b}, {b, 5}, {5, b}, {b, b}, {0, 63, b, 1}} {
			for _, s := range []uint64{0, 1, 1 << 63, full} {
				if got, e := With(s, l...); got != 0 || e != api.ErrArg {
					t.Errorf("%x %d: %x %d", s, l, got, e)
				}
			}
		}
	}
}

// The bits that are passed stay as they were, with their spare capacity.
func TestWithArgument(t *testing.T) {
	l := []int{5, 63, 0, 7}
	if s, e := With(0, l[:2]...); s != 1<<63|32 || e != api.OK || !slices.Equal(l, []int{5, 63, 0, 7}) {
		t.Errorf("%x %d %d", s, e, l)
	}
}

func TestOpts(t *testing.T) {
	for _, c := range []struct {
		set  uint64
		want api.Opts
	}{
		{0, api.Opts{}},
		{full, api.Opts{Event: true, Table: true, Packed: true}},
		{1 << 28, api.Opts{Table: true}},
		{1 << 29, api.Opts{Event: true}},
		{1 << 34, api.Opts{Packed: true}},
		{1<<28 | 1<<29, api.Opts{Event: true, Table: true}},
		{1<<28 | 1<<34, api.Opts{Table: true, Packed: true}},
		{1<<29 | 1<<34, api.Opts{Event: true, Packed: true}},
		{full &^ (1<<28 | 1<<29 | 1<<34), api.Opts{}},
		{full &^ (1 << 28), api.Opts{Event: true, Packed: true}},
		{full &^ (1 << 29), api.Opts{Table: true, Packed: true}},
		{full &^ (1 << 34), api.Opts{Event: true, Table: true}},
	} {
		if o := Opts(c.set); o != c.want {
			t.Errorf("%x: %v", c.set, o)
		}
	}
	for b := range 64 {
		if o := Opts(1 << b); o != (api.Opts{Event: b == 29, Table: b == 28, Packed: b == 34}) {
			t.Error(b, o)
		}
	}
}

// P6.3.

// ruled is the bits of a kind that rules speak of, with FeatV1 and some others: few enough to go through all pairs of subsets.
func ruled(kind int) uint64 {
	return map[int]uint64{
		net:  set(32, 0, 5, 17, 18, 19, 22, 23),
		blk:  set(32, 29, 5, 9, 12, 13, 14),
		cons: set(32, 28, 40, 0, 1, 2),
	}[kind]
}

func TestUnionAndIntersection(t *testing.T) {
	for _, kind := range kinds {
		count := 0
		for a := range subsets(ruled(kind)) {
			for b := range subsets(ruled(kind)) {
				if !Closed(kind, a) || !Closed(kind, b) {
					continue
				}
				if !Closed(kind, a|b) || !Closed(kind, a&b) {
					t.Fatalf("%d %x %x", kind, a, b)
				}
				count++
			}
		}
		if count < 1000 {
			t.Error(kind, count)
		}
	}
}

// Best against all subsets: it is accepted, within want and FeatV1, and each set that is both is a subset of it.
func TestBestIsGreatest(t *testing.T) {
	for _, kind := range kinds {
		for offer := range subsets(ruled(kind) &^ set(32)) {
			offer |= set(32)
			for want := range subsets(ruled(kind)) {
				best, e := Best(kind, offer, want)
				if e != api.OK || !closed(kind, best) || best&^offer != 0 || best&^(want|set(32)) != 0 || !Accept(kind, offer, best) {
					t.Fatalf("%d %x %x: %x %d", kind, offer, want, best, e)
				}
				for s := range subsets(offer & (want | set(32))) {
					if closed(kind, s) && s&^best != 0 {
						t.Fatalf("%d %x %x: %x lacks %x", kind, offer, want, best, s)
					}
				}
			}
		}
	}
}

// Best for offers and wants of any bits: none can be added, alone or with all that is required.
func TestBestOfAnySets(t *testing.T) {
	rnd := rand.New(rand.NewSource(7))
	for range 20000 {
		kind := kinds[rnd.Intn(3)]
		offer, want := rnd.Uint64()|rnd.Uint64()|set(32), rnd.Uint64()|rnd.Uint64()
		best, e := Best(kind, offer, want)
		if e != api.OK || !closed(kind, best) || best&^(offer&(want|set(32))) != 0 {
			t.Fatalf("%d %x %x: %x %d", kind, offer, want, best, e)
		}
		for _, b := range bitsOf(kind) {
			more := best | 1<<b
			if kind == net {
				more |= set(required[b]...)
			}
			if more != best && more&^(offer&(want|set(32))) == 0 {
				t.Fatalf("%d %x %x: %x lacks %d", kind, offer, want, best, b)
			}
		}
	}
}

// A set with what it needs is closed, and nothing less would do: each closed set that contains it contains that, too.
func TestNeedsCloses(t *testing.T) {
	for _, kind := range kinds {
		for s := range subsets(set(bitsOf(kind)...)) {
			n := Needs(kind, s)
			if s&n != 0 || !closed(kind, s|n) || !Closed(kind, s|n) || Needs(kind, s|n) != 0 || (n == 0) != closed(kind, s) {
				t.Fatalf("%d %x: %x", kind, s, n)
			}
			for m := n; m != 0; m &= m - 1 {
				if less := s | n&^(1<<bits.TrailingZeros64(m)); closed(kind, less) {
					t.Fatalf("%d %x: %x, but %x is closed", kind, s, n, less)
				}
			}
		}
	}
}
