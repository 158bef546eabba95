package layout

import (
	"math"
	"math/big"
	"math/rand"
	"testing"

	"dumbwaiter/api"
	"dumbwaiter/gmem"
)

const top = math.MaxUint64

// The sizes that the tests go through: the edges, and those in between.
var (
	splitSizes  = []int{1, 2, 4, 8, 256, 1 << 14, api.MaxSize}
	packedSizes = []int{1, 2, 3, 4, 5, 7, 8, 255, 256, api.MaxSize - 1, api.MaxSize}
)

// Sizes that no ring has, and those that no split ring has.
var (
	wrongSizes      = []int{math.MinInt, -api.MaxSize, -4, -1, 0, api.MaxSize + 1, 1 << 16, 1 << 32, 1<<32 + 4, math.MaxInt}
	wrongSplitSizes = append([]int{3, 5, 6, 7, 9, 255, 257, 1<<14 + 1, api.MaxSize - 1}, wrongSizes...)
)

// The elements of both kinds, and numbers that are of no element.
var (
	splitElements = []int{api.WhatDesc, api.WhatFlags, api.WhatIdx, api.WhatRing, api.WhatEvent,
		api.UsedFlags, api.UsedIdx, api.UsedRing, api.UsedEvent}
	packedElements = []int{api.WhatDesc, api.DriverEvent, api.DeviceEvent}
	wrongElements  = []int{math.MinInt, -1, 0, 12, 13, 1<<32 + 1, math.MaxInt}
)

// kinds is both kinds of rings with their sizes and elements.
var kinds = []struct {
	packed            bool
	sizes, wrong      []int
	elements, foreign []int
}{
	{false, splitSizes, wrongSplitSizes, splitElements, []int{api.DriverEvent, api.DeviceEvent}},
	{true, packedSizes, wrongSizes, packedElements, splitElements[1:]},
}

// part is where a part is, how many bytes it has, and of what its address is a multiple.
type part struct{ at, bytes, unit uint64 }

// model is the parts of rings by the words of the chapter: Desc, Driver, Device.
func model(r api.Rings) [3]part {
	n := uint64(r.Size)
	if r.Packed {
		return [3]part{{r.Desc, n * 16, 16}, {r.Driver, 4, 4}, {r.Device, 4, 4}}
	}
	return [3]part{{r.Desc, n * 16, 16}, {r.Driver, 2 + 2 + n*2 + 2, 2}, {r.Device, 2 + 2 + n*8 + 2, 4}}
}

// end is the address after some bytes, which may be 2^64 or more.
func end(at, n uint64) *big.Int {
	return new(big.Int).Add(new(big.Int).SetUint64(at), new(big.Int).SetUint64(n))
}

// common reports whether two ranges have a byte in common.
func common(at, n, at2, n2 uint64) bool {
	if n == 0 || n2 == 0 {
		return false
	}
	return end(at, n).Cmp(end(at2, 0)) > 0 && end(at2, n2).Cmp(end(at, 0)) > 0
}

// valid reports whether rings whose size is valid are.
func valid(r api.Rings) bool {
	beyond := end(top, 1)
	l := model(r)
	for i, p := range l {
		if p.at%p.unit != 0 || end(p.at, p.bytes).Cmp(beyond) > 0 {
			return false
		}
		for _, q := range l[i+1:] {
			if common(p.at, p.bytes, q.at, q.bytes) {
				return false
			}
		}
	}
	return true
}

// with returns the rings with another address of a part.
func with(r api.Rings, part int, at uint64) api.Rings {
	*[]*uint64{&r.Desc, &r.Driver, &r.Device}[part] = at
	return r
}

// apart returns rings whose parts are far away from each other, and from both ends of the addresses.
func apart(packed bool, size int) api.Rings {
	return api.Rings{Packed: packed, Size: size, Desc: 1 << 40, Driver: 1 << 41, Device: 1 << 42}
}

func wantCheck(t *testing.T, r api.Rings, want api.Errno) {
	t.Helper()
	if e := Check(r); e != want {
		t.Errorf("Check(%+v) = %d, not %d", r, e, want)
	}
}

// eachRing goes through rings of all kinds and sizes.
func eachRing(yield func(api.Rings) bool) {
	for _, k := range kinds {
		for _, size := range k.sizes {
			if !yield(apart(k.packed, size)) {
				return
			}
		}
	}
}

// eachWrong goes through rings whose size is not valid.
func eachWrong(yield func(api.Rings) bool) {
	for _, k := range kinds {
		for _, size := range k.wrong {
			if !yield(apart(k.packed, size)) {
				return
			}
		}
	}
}

// P4.1: Check.

func TestCheckSizes(t *testing.T) {
	for size := -10; size <= 2*api.MaxSize+10; size++ {
		want := api.Errno(api.ErrArg)
		if size >= 1 && size <= 32768 {
			want = api.OK
		}
		wantCheck(t, apart(true, size), want)
		if size >= 1 && size&(size-1) != 0 {
			want = api.ErrArg
		}
		wantCheck(t, apart(false, size), want)
	}
	for r := range eachRing {
		wantCheck(t, r, api.OK)
	}
	for r := range eachWrong {
		wantCheck(t, r, api.ErrArg)
	}
}

func TestCheckZero(t *testing.T) {
	wantCheck(t, api.Rings{}, api.ErrArg)
	wantCheck(t, api.Rings{Packed: true}, api.ErrArg)
	// All parts at 0.
	wantCheck(t, api.Rings{Size: 1}, api.ErrArg)
	wantCheck(t, api.Rings{Packed: true, Size: 1}, api.ErrArg)
}

// Each part is moved by single bytes over some multiples.
func TestCheckAlignment(t *testing.T) {
	for r := range eachRing {
		for i, p := range model(r) {
			for off := uint64(0); off <= 64; off++ {
				want := api.Errno(api.OK)
				if off%p.unit != 0 {
					want = api.ErrArg
				}
				wantCheck(t, with(r, i, p.at+off), want)
				wantCheck(t, with(r, i, p.at-off), want)
			}
		}
	}
}

// Each part is moved to both ends of the addresses.
func TestCheckEnds(t *testing.T) {
	for r := range eachRing {
		for i, p := range model(r) {
			// As an address, 2^64 is 0.
			last := -p.bytes &^ (p.unit - 1)
			wantCheck(t, with(r, i, last), api.OK)
			for off := p.unit; off != 0 && last+off != 0; off += p.unit {
				wantCheck(t, with(r, i, last+off), api.ErrArg)
			}
			wantCheck(t, with(r, i, 0), api.OK)
			wantCheck(t, with(r, i, top), api.ErrArg)
			wantCheck(t, with(r, i, -p.unit), answer(p.bytes <= p.unit))
		}
	}
}

// answer is OK or ErrArg.
func answer(ok bool) api.Errno {
	if ok {
		return api.OK
	}
	return api.ErrArg
}

// Of each two parts one is laid as near behind the other as its alignment permits, then one step nearer, and further.
func TestCheckOverlap(t *testing.T) {
	for r := range eachRing {
		l := model(r)
		for i, p := range l {
			for j, q := range l {
				if i == j {
					continue
				}
				behind := (p.at + p.bytes + q.unit - 1) / q.unit * q.unit
				wantCheck(t, with(r, j, behind), api.OK)
				for at := behind - q.unit; at >= p.at; at -= q.unit {
					wantCheck(t, with(r, j, at), api.ErrArg)
				}
				// Before the other one: its end touches that, or is as near as can be.
				before := (p.at - q.bytes) / q.unit * q.unit
				wantCheck(t, with(r, j, before), api.OK)
				wantCheck(t, with(r, j, before+q.unit), api.ErrArg)
			}
		}
	}
}

// What both kinds' parts do where they touch, by numbers.
func TestCheckTouch(t *testing.T) {
	for _, c := range []struct {
		r    api.Rings
		want api.Errno
	}{
		{api.Rings{Size: 4, Desc: 64, Driver: 128, Device: 144}, api.OK},
		{api.Rings{Size: 4, Desc: 64, Driver: 126, Device: 144}, api.ErrArg},
		{api.Rings{Size: 4, Desc: 64, Driver: 50, Device: 128}, api.OK},
		{api.Rings{Size: 4, Desc: 64, Driver: 52, Device: 128}, api.ErrArg},
		{api.Rings{Size: 4, Desc: 64, Driver: 166, Device: 128}, api.OK},
		{api.Rings{Size: 4, Desc: 64, Driver: 164, Device: 128}, api.ErrArg},
		{api.Rings{Size: 4, Desc: 64, Driver: 128, Device: 24}, api.OK},
		{api.Rings{Size: 4, Desc: 64, Driver: 128, Device: 28}, api.ErrArg},
		{api.Rings{Size: 4, Desc: 64, Driver: 127, Device: 144}, api.ErrArg},
		{api.Rings{Packed: true, Size: 2, Desc: 16, Driver: 48, Device: 52}, api.OK},
		{api.Rings{Packed: true, Size: 2, Desc: 16, Driver: 52, Device: 48}, api.OK},
		{api.Rings{Packed: true, Size: 2, Desc: 16, Driver: 12, Device: 8}, api.OK},
		{api.Rings{Packed: true, Size: 2, Desc: 16, Driver: 44, Device: 48}, api.ErrArg},
		{api.Rings{Packed: true, Size: 2, Desc: 16, Driver: 48, Device: 44}, api.ErrArg},
		{api.Rings{Packed: true, Size: 2, Desc: 16, Driver: 48, Device: 48}, api.ErrArg},
		{api.Rings{Packed: true, Size: 2, Desc: 16, Driver: 16, Device: 48}, api.ErrArg},
		{api.Rings{Packed: true, Size: 2, Desc: 16, Driver: 47, Device: 52}, api.ErrArg},
	} {
		wantCheck(t, c.r, c.want)
	}
}

// All parts around 2^64, and around each other, against the model.
func TestCheckModel(t *testing.T) {
	rnd := rand.New(rand.NewSource(4))
	for range 200000 {
		k := kinds[rnd.Intn(2)]
		r := api.Rings{Packed: k.packed, Size: k.sizes[rnd.Intn(5)]}
		base := []uint64{0, 1 << 20, 1 << 63, top - 2047, top - 63}[rnd.Intn(5)]
		width := []int{16, 32, 128, 1024}[rnd.Intn(4)]
		for i := range 3 {
			r = with(r, i, base+uint64(rnd.Intn(width))*[]uint64{1, 2, 4, 16}[rnd.Intn(4)])
		}
		wantCheck(t, r, answer(valid(r)))
	}
}

// P4.1: Parts.

func TestParts(t *testing.T) {
	for _, c := range []struct {
		packed               bool
		size                 int
		desc, driver, device uint64
	}{
		{false, 1, 16, 8, 14},
		{false, 2, 32, 10, 22},
		{false, 4, 64, 14, 38},
		{false, 256, 4096, 518, 2054},
		{false, 32768, 524288, 65542, 262150},
		{true, 1, 16, 4, 4},
		{true, 3, 48, 4, 4},
		{true, 5, 80, 4, 4},
		{true, 32767, 524272, 4, 4},
		{true, 32768, 524288, 4, 4},
	} {
		desc, driver, device := Parts(apart(c.packed, c.size))
		if desc != c.desc || driver != c.driver || device != c.device {
			t.Error(c, desc, driver, device)
		}
	}
}

// Parts asks for nothing but the kind and the size.
func TestPartsWherever(t *testing.T) {
	for r := range eachRing {
		l := model(r)
		for _, at := range []uint64{0, 1, 3, top} {
			moved := api.Rings{Packed: r.Packed, Size: r.Size, Desc: at, Driver: at, Device: at}
			desc, driver, device := Parts(moved)
			if desc != l[0].bytes || driver != l[1].bytes || device != l[2].bytes {
				t.Error(moved, desc, driver, device)
			}
		}
	}
}

func TestPartsWrongSize(t *testing.T) {
	for r := range eachWrong {
		if desc, driver, device := Parts(r); desc != 0 || driver != 0 || device != 0 {
			t.Error(r, desc, driver, device)
		}
	}
}

// P4.1: Fits.

// memory returns a memory with these regions.
func memory(t *testing.T, l ...api.Region) *gmem.Mem {
	t.Helper()
	m, e := gmem.New(l)
	if e != api.OK {
		t.Fatal(l, e)
	}
	return m
}

func wantFits(t *testing.T, m *gmem.Mem, r api.Rings, want api.Errno) {
	t.Helper()
	if e := Fits(m, r); e != want {
		t.Errorf("Fits of %+v = %d, not %d", r, e, want)
	}
}

func TestFitsNoMemory(t *testing.T) {
	good := memory(t, api.Region{At: 1 << 40, Len: 1 << 16})
	copied := *good
	for _, m := range []*gmem.Mem{nil, {}, &copied} {
		wantFits(t, m, apart(false, 4), api.ErrNil)
		// No memory is told before rings that are not valid.
		wantFits(t, m, api.Rings{}, api.ErrNil)
		wantFits(t, m, apart(true, 0), api.ErrNil)
	}
}

func TestFitsWrongRings(t *testing.T) {
	m := memory(t, api.Region{At: 0, Len: 1 << 16})
	wantFits(t, m, api.Rings{}, api.ErrArg)
	wantFits(t, m, api.Rings{Size: 4}, api.ErrArg)
	for r := range eachWrong {
		wantFits(t, m, r, api.ErrArg)
	}
	for r := range eachRing {
		// That they are not valid is told before that they do not exist.
		wantFits(t, m, with(r, 0, 1<<40+1), api.ErrArg)
		wantFits(t, m, with(r, 2, r.Desc), api.ErrArg)
	}
}

// Each part is in a region of its own; then each in turn lacks its first byte, its last byte, or all.
func TestFitsEachPart(t *testing.T) {
	for r := range eachRing {
		var l []api.Region
		for _, p := range model(r) {
			l = append(l, api.Region{At: p.at, Len: p.bytes})
		}
		wantFits(t, memory(t, l...), r, api.OK)
		for i, p := range l {
			for _, short := range []api.Region{
				{At: p.At, Len: p.Len - 1},
				{At: p.At + 1, Len: p.Len - 1},
				{At: p.At + p.Len, Len: 1},
			} {
				lacking := append([]api.Region{}, l...)
				lacking[i] = short
				wantFits(t, memory(t, lacking...), r, api.ErrRange)
			}
			// Regions that touch are still two.
			cut := append([]api.Region{}, l[:i]...)
			cut = append(cut, api.Region{At: p.At, Len: 1}, api.Region{At: p.At + 1, Len: p.Len - 1})
			wantFits(t, memory(t, append(cut, l[i+1:]...)...), r, api.ErrRange)
		}
		wantFits(t, memory(t), r, api.ErrRange)
	}
}

// All parts are in one region that just contains them, at both ends of the addresses.
func TestFitsOneRegion(t *testing.T) {
	low := api.Rings{Packed: true, Size: 5, Desc: 0, Driver: 80, Device: 84}
	wantFits(t, memory(t, api.Region{At: 0, Len: 88}), low, api.OK)
	wantFits(t, memory(t, api.Region{At: 0, Len: 87}), low, api.ErrRange)
	high := api.Rings{Size: 1, Desc: top - 47, Device: top - 31, Driver: top - 7}
	wantFits(t, memory(t, api.Region{At: top - 47, Len: 48}), high, api.OK)
	wantFits(t, memory(t, api.Region{At: top - 47, Len: 47}), high, api.ErrRange)
	wantFits(t, memory(t, api.Region{At: top - 46, Len: 47}), high, api.ErrRange)
}

func TestFitsChangesNothing(t *testing.T) {
	m := memory(t, api.Region{At: 0, Len: 256})
	r := api.Rings{Packed: true, Size: 5, Driver: 80, Device: 84}
	wantFits(t, m, r, api.OK)
	for i, b := range m.Image() {
		if b != 0 {
			t.Error(i, b)
		}
	}
}

// P4.1: Where.

func wantWhere(t *testing.T, r api.Rings, what, i int, at uint64, bytes int) {
	t.Helper()
	a, n, e := Where(r, what, i)
	if a != at || n != bytes || e != api.OK {
		t.Errorf("Where(%+v, %d, %d) = %d, %d, %d, not %d, %d", r, what, i, a, n, e, at, bytes)
	}
}

func wantNowhere(t *testing.T, r api.Rings, what, i int) {
	t.Helper()
	a, n, e := Where(r, what, i)
	if a != 0 || n != 0 || e != api.ErrArg {
		t.Errorf("Where(%+v, %d, %d) = %d, %d, %d, not ErrArg", r, what, i, a, n, e)
	}
}

func TestWhereExamples(t *testing.T) {
	r := api.Rings{Size: 4, Desc: 112, Driver: 176, Device: 192}
	wantWhere(t, r, api.WhatRing, 3, 186, 2)
	wantWhere(t, r, api.UsedRing, 1, 204, 8)
}

// The first and the last of each element of the split rings of all sizes.
func TestWhereSplit(t *testing.T) {
	for _, size := range splitSizes {
		r, n := apart(false, size), uint64(size)
		wantWhere(t, r, api.WhatDesc, 0, r.Desc, 16)
		wantWhere(t, r, api.WhatDesc, size-1, r.Desc+16*(n-1), 16)
		wantWhere(t, r, api.WhatFlags, 0, r.Driver, 2)
		wantWhere(t, r, api.WhatIdx, 0, r.Driver+2, 2)
		wantWhere(t, r, api.WhatRing, 0, r.Driver+4, 2)
		wantWhere(t, r, api.WhatRing, size-1, r.Driver+4+2*(n-1), 2)
		wantWhere(t, r, api.WhatEvent, 0, r.Driver+4+2*n, 2)
		wantWhere(t, r, api.UsedFlags, 0, r.Device, 2)
		wantWhere(t, r, api.UsedIdx, 0, r.Device+2, 2)
		wantWhere(t, r, api.UsedRing, 0, r.Device+4, 8)
		wantWhere(t, r, api.UsedRing, size-1, r.Device+4+8*(n-1), 8)
		wantWhere(t, r, api.UsedEvent, 0, r.Device+4+8*n, 2)
	}
}

// The same of packed rings.
func TestWherePacked(t *testing.T) {
	for _, size := range packedSizes {
		r := apart(true, size)
		wantWhere(t, r, api.WhatDesc, 0, r.Desc, 16)
		wantWhere(t, r, api.WhatDesc, size-1, r.Desc+16*(uint64(size)-1), 16)
		wantWhere(t, r, api.DriverEvent, 0, r.Driver, 4)
		wantWhere(t, r, api.DeviceEvent, 0, r.Device, 4)
	}
}

// The last elements of parts at 2^64.
func TestWhereTop(t *testing.T) {
	r := api.Rings{Size: 2, Desc: 0, Driver: 64, Device: 128}
	wantWhere(t, with(r, 0, top-31), api.WhatDesc, 1, top-15, 16)
	wantWhere(t, with(r, 1, top-9), api.WhatEvent, 0, top-1, 2)
	wantWhere(t, with(r, 1, top-9), api.WhatRing, 1, top-3, 2)
	wantWhere(t, with(r, 2, top-23), api.UsedEvent, 0, top-3, 2)
	p := api.Rings{Packed: true, Size: 2, Desc: 0, Driver: 64, Device: 128}
	wantWhere(t, with(p, 1, top-3), api.DriverEvent, 0, top-3, 4)
	wantWhere(t, with(p, 2, top-3), api.DeviceEvent, 0, top-3, 4)
}

// indexed reports whether there is an element of this kind for each descriptor.
func indexed(what int) bool {
	return what == api.WhatDesc || what == api.WhatRing || what == api.UsedRing
}

func TestWhereWrongIndex(t *testing.T) {
	for _, k := range kinds {
		for _, size := range k.sizes {
			r := apart(k.packed, size)
			for _, what := range k.elements {
				count := 1
				if indexed(what) {
					count = size
				}
				for _, i := range []int{math.MinInt, -size, -1, count, count + 1, 2 * api.MaxSize, 1 << 32, 1 << 60, 1 << 61, math.MaxInt} {
					wantNowhere(t, r, what, i)
				}
			}
		}
	}
}

func TestWhereWrongElement(t *testing.T) {
	for _, k := range kinds {
		for _, what := range append(k.foreign, wrongElements...) {
			for _, i := range []int{-1, 0, 1, 3} {
				wantNowhere(t, apart(k.packed, 4), what, i)
			}
		}
	}
}

func TestWhereWrongRings(t *testing.T) {
	for _, k := range kinds {
		for _, what := range k.elements {
			for _, size := range k.wrong {
				wantNowhere(t, apart(k.packed, size), what, 0)
			}
			r := apart(k.packed, 4)
			// Also where the part of the element itself is as it should be.
			for i, p := range model(r) {
				wantNowhere(t, with(r, i, p.at+1), what, 0)
				wantNowhere(t, with(r, i, 0-p.unit+1), what, 0)
			}
			wantNowhere(t, with(r, 1, r.Device), what, 0)
			wantNowhere(t, with(r, 0, top-15), what, 0)
		}
	}
}

// P4.2: Place.

func wantPlace(t *testing.T, packed bool, size int, base uint64, want api.Rings, bytes uint64) {
	t.Helper()
	r, n, e := Place(packed, size, base)
	if r != want || n != bytes || e != api.OK {
		t.Errorf("Place(%t, %d, %d) = %+v, %d, %d, not %+v, %d", packed, size, base, r, n, e, want, bytes)
	}
}

func wantNoPlace(t *testing.T, packed bool, size int, base uint64) {
	t.Helper()
	if r, n, e := Place(packed, size, base); r != (api.Rings{}) || n != 0 || e != api.ErrArg {
		t.Errorf("Place(%t, %d, %d) = %+v, %d, %d, not ErrArg", packed, size, base, r, n, e)
	}
}

func TestPlaceExamples(t *testing.T) {
	wantPlace(t, false, 4, 100, api.Rings{Size: 4, Desc: 112, Driver: 176, Device: 192}, 130)
	wantPlace(t, true, 5, 3, api.Rings{Packed: true, Size: 5, Desc: 16, Driver: 96, Device: 100}, 101)
}

func TestPlaceEdges(t *testing.T) {
	wantPlace(t, false, 1, 0, api.Rings{Size: 1, Desc: 0, Driver: 16, Device: 24}, 38)
	wantPlace(t, false, 2, 0, api.Rings{Size: 2, Desc: 0, Driver: 32, Device: 44}, 66)
	wantPlace(t, false, 32768, 0, api.Rings{Size: 32768, Desc: 0, Driver: 524288, Device: 589832}, 851982)
	wantPlace(t, true, 1, 0, api.Rings{Packed: true, Size: 1, Desc: 0, Driver: 16, Device: 20}, 24)
	wantPlace(t, true, 32768, 0, api.Rings{Packed: true, Size: 32768, Desc: 0, Driver: 524288, Device: 524292}, 524296)
	// Just at, just before and just beyond a multiple of 16.
	wantPlace(t, true, 1, 16, api.Rings{Packed: true, Size: 1, Desc: 16, Driver: 32, Device: 36}, 24)
	wantPlace(t, true, 1, 15, api.Rings{Packed: true, Size: 1, Desc: 16, Driver: 32, Device: 36}, 25)
	wantPlace(t, true, 1, 17, api.Rings{Packed: true, Size: 1, Desc: 32, Driver: 48, Device: 52}, 39)
}

// firstFrom is the first multiple of unit from an address on, found step by step.
func firstFrom(at, unit uint64) uint64 {
	for at%unit != 0 {
		at++
	}
	return at
}

// placed is what Place should return where nothing comes near 2^64.
func placed(packed bool, size int, base uint64) (api.Rings, uint64) {
	r := api.Rings{Packed: packed, Size: size}
	free := base
	for i, p := range model(r) {
		at := firstFrom(free, p.unit)
		r = with(r, i, at)
		free = at + p.bytes
	}
	return r, free - base
}

func TestPlaceModel(t *testing.T) {
	for _, k := range kinds {
		for _, size := range k.sizes {
			for _, from := range []uint64{0, 1000, 1 << 32, 1 << 63, top - 1<<20} {
				for base := from; base < from+40; base++ {
					r, n := placed(k.packed, size, base)
					wantPlace(t, k.packed, size, base, r, n)
				}
			}
		}
	}
}

// The last base from which the parts do not extend beyond 2^64, and all that are beyond it.
func TestPlaceTop(t *testing.T) {
	for _, k := range kinds {
		for _, size := range k.sizes {
			_, n := placed(k.packed, size, 0)
			last := -n &^ 15
			r, _ := placed(k.packed, size, last)
			wantPlace(t, k.packed, size, last, r, n)
			wantPlace(t, k.packed, size, last-15, r, n+15)
			for off := uint64(1); off <= 64 && last+off != 0; off++ {
				wantNoPlace(t, k.packed, size, last+off)
			}
			// Here all of Desc fits, then nothing; or not all of it.
			desc := uint64(size) * 16
			for _, base := range []uint64{-desc, -desc - 15, -desc + 1, top - 15, top - 14, top - 1, top} {
				wantNoPlace(t, k.packed, size, base)
			}
		}
	}
}

// Rings of one descriptor, by numbers: the last bytes are Device's, and 2^64 - 64 is a multiple of 16.
func TestPlaceTopNumbers(t *testing.T) {
	wantPlace(t, false, 1, top-63, api.Rings{Size: 1, Desc: top - 63, Driver: top - 47, Device: top - 39}, 38)
	wantPlace(t, false, 1, top-47, api.Rings{Size: 1, Desc: top - 47, Driver: top - 31, Device: top - 23}, 38)
	wantNoPlace(t, false, 1, top-46)
	wantNoPlace(t, false, 1, top-31)
	// Desc would end at 2^64, and Driver begin there.
	wantNoPlace(t, true, 1, top-19)
	wantPlace(t, true, 1, top-31, api.Rings{Packed: true, Size: 1, Desc: top - 31, Driver: top - 15, Device: top - 11}, 24)
	wantNoPlace(t, true, 1, top-30)
	wantNoPlace(t, true, 1, top-15)
	// Here Desc itself would be at 2^64.
	wantNoPlace(t, true, 1, top-14)
	wantNoPlace(t, false, 1, top)
}

func TestPlaceWrongSize(t *testing.T) {
	for _, k := range kinds {
		for _, size := range k.wrong {
			for _, base := range []uint64{0, 16, 100, top - 15, top} {
				wantNoPlace(t, k.packed, size, base)
			}
		}
	}
}

// P4.2: Over.

func wantOver(t *testing.T, r api.Rings, at, n uint64, want bool) {
	t.Helper()
	if got := Over(r, at, n); got != want {
		t.Errorf("Over(%+v, %d, %d) = %t", r, at, n, got)
	}
}

// Each part's first and last byte, and those before and after it.
func TestOverEdges(t *testing.T) {
	for r := range eachRing {
		for _, p := range model(r) {
			last := p.at + p.bytes - 1
			for _, c := range []struct {
				at, n uint64
				want  bool
			}{
				{p.at, 1, true},
				{p.at - 1, 1, false},
				{p.at - 1, 2, true},
				{p.at - 16, 16, false},
				{p.at - 16, 17, true},
				{last, 1, true},
				{last, 100, true},
				{last + 1, 1, false},
				{last + 1, 100, false},
				{p.at, p.bytes, true},
				{p.at - 1, p.bytes + 2, true},
				{p.at + p.bytes/2, 1, true},
				{p.at, top, true},
				{last + 1, 0, false},
				{last, 0, false},
				{p.at, 0, false},
				{p.at + 1, 0, false},
			} {
				wantOver(t, r, c.at, c.n, c.want)
			}
		}
	}
}

// Ranges that are near and far below 2^64, that end there, or would end beyond it, and rings at both ends.
func TestOverEnds(t *testing.T) {
	low := api.Rings{Packed: true, Size: 1, Desc: 0, Driver: 32, Device: 40}
	wantOver(t, low, 0, 1, true)
	wantOver(t, low, 0, top, true)
	wantOver(t, low, 16, 16, false)
	wantOver(t, low, 36, 4, false)
	wantOver(t, low, 36, 5, true)
	wantOver(t, low, 44, top, false)
	wantOver(t, low, 44, top-43, false)
	// Bytes do not go on at 0.
	wantOver(t, low, top, 1, false)
	wantOver(t, low, top, 2, false)
	wantOver(t, low, top, top, false)
	high := api.Rings{Packed: true, Size: 1, Desc: top - 63, Driver: top - 15, Device: top - 3}
	wantOver(t, high, top, 1, true)
	wantOver(t, high, top, 2, true)
	wantOver(t, high, top, top, true)
	wantOver(t, high, top, 0, false)
	wantOver(t, high, 0, top, true)
	wantOver(t, high, 0, top-63, false)
	wantOver(t, high, 0, top-62, true)
	wantOver(t, high, top-11, 8, false)
	wantOver(t, high, top-11, 9, true)
	wantOver(t, high, top-11, top, true)
}

// Each range of some rings' neighbourhood, byte by byte.
func TestOverModel(t *testing.T) {
	for _, r := range []api.Rings{
		{Size: 1, Desc: 16, Driver: 40, Device: 60},
		{Size: 2, Desc: 48, Driver: 36, Device: 4},
		{Packed: true, Size: 2, Desc: 32, Driver: 12, Device: 8},
		{Packed: true, Size: 1, Desc: 16, Driver: 40, Device: 60},
	} {
		var in [100]bool
		for _, p := range model(r) {
			for i := range p.bytes {
				in[p.at+i] = true
			}
		}
		for at := range in {
			want := false
			for n := range len(in) - at {
				wantOver(t, r, uint64(at), uint64(n), want)
				want = want || in[at+n]
			}
		}
	}
}

func TestOverWrongRings(t *testing.T) {
	wantOver(t, api.Rings{}, 0, 1, false)
	wantOver(t, api.Rings{Size: 1}, 0, top, false)
	for r := range eachWrong {
		wantOver(t, r, r.Desc, 1, false)
		wantOver(t, r, 0, top, false)
	}
	for r := range eachRing {
		wantOver(t, with(r, 0, r.Desc+1), r.Driver, 1, false)
		wantOver(t, with(r, 1, r.Device), r.Device, 1, false)
		wantOver(t, with(r, 2, top-1), r.Desc, 1, false)
	}
}

// P4.3: the theorems.

// Each byte of each part is in just one element, and no element has a byte outside its part.
func TestElementsFillParts(t *testing.T) {
	// Which part an element is of.
	partOf := func(what int) int {
		switch what {
		case api.WhatDesc:
			return 0
		case api.UsedFlags, api.UsedIdx, api.UsedRing, api.UsedEvent, api.DeviceEvent:
			return 2
		}
		return 1
	}
	for _, k := range kinds {
		for _, size := range k.sizes {
			r := apart(k.packed, size)
			l := model(r)
			var seen [3][]bool
			for i, p := range l {
				seen[i] = make([]bool, p.bytes)
			}
			for _, what := range k.elements {
				count := 1
				if indexed(what) {
					count = size
				}
				part := partOf(what)
				for i := range count {
					at, bytes, e := Where(r, what, i)
					if e != api.OK || bytes < 1 || at < l[part].at || at-l[part].at+uint64(bytes) > l[part].bytes {
						t.Fatal(r, what, i, at, bytes, e)
					}
					for j := range uint64(bytes) {
						if seen[part][at-l[part].at+j] {
							t.Fatal(r, what, i, "has a byte of another element")
						}
						seen[part][at-l[part].at+j] = true
					}
				}
			}
			for i := range seen {
				for j, s := range seen[i] {
					if !s {
						t.Fatal(r, i, j, "is in no element")
					}
				}
			}
		}
	}
}

// What Place returns is valid, and is within the bytes that it takes, from base on.
func TestPlacedIsValid(t *testing.T) {
	rnd := rand.New(rand.NewSource(43))
	for range 100000 {
		k := kinds[rnd.Intn(2)]
		size := k.sizes[rnd.Intn(len(k.sizes))]
		base := rnd.Uint64()
		switch rnd.Intn(3) {
		case 0:
			base = uint64(rnd.Intn(100))
		case 1:
			base = top - uint64(rnd.Intn(1<<20))
		}
		r, n, e := Place(k.packed, size, base)
		_, want := placed(k.packed, size, 0)
		if e != api.OK {
			// The multiple of 16 may be up to 15 bytes beyond the base.
			if e != api.ErrArg || end(base, want+15).Cmp(end(top, 1)) <= 0 {
				t.Fatal(k.packed, size, base, e)
			}
			continue
		}
		if !valid(r) || Check(r) != api.OK || r.Packed != k.packed || r.Size != size {
			t.Fatal(k.packed, size, base, r)
		}
		if n < want || n > want+15 || r.Desc < base || r.Device < base || r.Driver < base {
			t.Fatal(k.packed, size, base, r, n)
		}
		for _, p := range model(r) {
			if end(p.at, p.bytes).Cmp(end(base, n)) > 0 {
				t.Fatal(k.packed, size, base, r, n)
			}
		}
	}
}

// What is placed fits in a memory of just these bytes, and in no smaller one.
func TestPlacedFits(t *testing.T) {
	for _, k := range kinds {
		for _, size := range k.sizes {
			for _, base := range []uint64{0, 1, 100, 1 << 63} {
				r, n, e := Place(k.packed, size, base)
				if e != api.OK {
					t.Fatal(k.packed, size, base, e)
				}
				wantFits(t, memory(t, api.Region{At: base, Len: n}), r, api.OK)
				wantFits(t, memory(t, api.Region{At: base, Len: n - 1}), r, api.ErrRange)
				wantFits(t, memory(t, api.Region{At: r.Desc + 1, Len: n}), r, api.ErrRange)
			}
		}
	}
}
