package status

import (
	"math"
	"math/rand"
	"slices"
	"testing"

	"dumbwaiter/api"
	"dumbwaiter/feat"
)

const (
	net  = 1
	blk  = 2
	cons = 3

	full = math.MaxUint64

	v1    = 1 << 32
	flush = 1 << 9
	ro    = 1 << 5
)

var (
	kinds      = []int{net, blk, cons}
	wrongKinds = []int{math.MinInt, -2, -1, 0, 4, 5, 8, 1 << 32, 1<<32 + 2, math.MaxInt}
)

// The statuses that may be, by the words of the chapter; each also with StFailed.
var (
	freshStatuses = []byte{0, 1, 128, 129}            // without StDriver
	openStatuses  = []byte{3, 131}                    // with StDriver, without StFeat
	fixedStatuses = []byte{11, 15, 79, 139, 143, 207} // with StFeat
)

// set is the set of some bits.
func set(l ...int) uint64 {
	s := uint64(0)
	for _, b := range l {
		s |= 1 << b
	}
	return s
}

// offers is valid offers of a kind, one of them not closed.
func offers(kind int) []uint64 {
	return map[int][]uint64{
		net:  {v1, set(32, 17, 19), set(32, 19, 5), set(32, 29, 5, 17, 23, 22), 0x0000_010d_30cf_8023},
		blk:  {v1, v1 | flush, set(32, 28, 29, 34, 40), 0x0000_010d_3000_7220},
		cons: {v1, set(32, 1), set(32, 0, 2, 35), 0x0000_010d_3000_0007},
	}[kind]
}

// wrongOffers is offers that are not valid for a kind: without FeatV1, with bits of no device, or of another kind.
func wrongOffers(kind int) []uint64 {
	l := []uint64{0, full, set(63), set(32, 63), set(32, 2, 3), full &^ v1, set(32, 24), set(28, 29, 34)}
	return append(l, map[int][]uint64{
		net:  {set(17, 19), set(32, 9), set(32, 12), set(32, 17, 14), set(32, 2)},
		blk:  {flush, set(32, 17), set(32, 0), set(32, 9, 19), set(5, 9, 12, 13, 14)},
		cons: {set(0, 1, 2), set(32, 5), set(32, 1, 17), set(32, 9)},
	}[kind]...)
}

// someSets is sets that are requested: accepted ones, and all kinds of others.
func someSets(offer uint64) []uint64 {
	l := []uint64{
		0, v1, full, 1, 1 << 63, flush, v1 | flush, v1 | ro, v1 | 1<<63, offer, offer &^ v1, ^offer,
		set(32, 17), set(32, 19), set(32, 17, 19), set(32, 5, 17, 23), set(32, 17, 23), set(32, 1), set(32, 29), set(32, 0, 2),
	}
	slices.Sort(l)
	return slices.Compact(l)
}

// accepted tells by the words of chapter 6 whether a set is accepted for an offer that is known.
func accepted(kind int, offer, s uint64) bool {
	if s&v1 == 0 || s&^offer != 0 {
		return false
	}
	if kind != net {
		return true
	}
	if s&set(18, 19, 22, 23) != 0 && s&set(17) == 0 {
		return false
	}
	return s&set(23) == 0 || s&set(5) != 0
}

// valid tells by the words of the chapter whether a state with a valid kind and offer is valid.
func valid(d api.Dev) bool {
	switch {
	case slices.Contains(freshStatuses, d.Status):
		return d.Guest == 0
	case slices.Contains(openStatuses, d.Status):
		return true
	case slices.Contains(fixedStatuses, d.Status):
		return accepted(d.Kind, d.Offer, d.Guest)
	}
	return false
}

// written is the state after writing a status, by the words of the chapter.
func written(d api.Dev, word byte) api.Dev {
	if word == 0 {
		return api.Dev{Kind: d.Kind, Offer: d.Offer}
	}
	if word&1 != 0 {
		d.Status |= 1
	}
	if word&2 != 0 && d.Status&1 != 0 {
		d.Status |= 2
	}
	if word&8 != 0 && d.Status&2 != 0 && accepted(d.Kind, d.Offer, d.Guest) {
		d.Status |= 8
	}
	if word&4 != 0 && d.Status&8 != 0 {
		d.Status |= 4
	}
	if word&128 != 0 {
		d.Status |= 128
	}
	return d
}

// asked is the state after writing features, by the words of the chapter.
func asked(d api.Dev, s uint64) api.Dev {
	if d.Status&2 != 0 && d.Status&8 == 0 {
		d.Guest = s
	}
	return d
}

// devices goes through states of valid kinds and offers with all statuses, and some sets.
func devices(yield func(api.Dev) bool) {
	for _, kind := range kinds {
		for _, offer := range offers(kind) {
			for _, guest := range someSets(offer) {
				for status := range 256 {
					if !yield(api.Dev{Kind: kind, Offer: offer, Guest: guest, Status: byte(status)}) {
						return
					}
				}
			}
		}
	}
}

// validDevices goes through those of devices that are valid.
func validDevices(yield func(api.Dev) bool) {
	for d := range devices {
		if valid(d) && !yield(d) {
			return
		}
	}
}

// wrongDevices goes through states that are not valid: by status and Guest, by offer, and by kind.
func wrongDevices(yield func(api.Dev) bool) {
	for d := range devices {
		if !valid(d) && !yield(d) {
			return
		}
	}
	for _, status := range slices.Concat(freshStatuses, openStatuses, fixedStatuses) {
		for _, guest := range []uint64{0, v1} {
			for _, kind := range kinds {
				for _, offer := range wrongOffers(kind) {
					if !yield(api.Dev{Kind: kind, Offer: offer, Guest: guest, Status: status}) {
						return
					}
				}
			}
			for _, kind := range wrongKinds {
				for _, offer := range []uint64{0, v1, v1 | flush, full} {
					if !yield(api.Dev{Kind: kind, Offer: offer, Guest: guest, Status: status}) {
						return
					}
				}
			}
		}
	}
}

// The kinds, bits and errors that api names are those of the chapter.
func TestNumbers(t *testing.T) {
	got := []int{
		api.StAck, api.StDriver, api.StLive, api.StFeat, api.StNeeds, api.StFailed,
		api.KindNet, api.KindBlk, api.KindCons, int(api.OK), int(api.ErrArg), int(api.ErrState),
	}
	if !slices.Equal(got, []int{1, 2, 4, 8, 64, 128, net, blk, cons, 0, 2, 8}) {
		t.Error(got)
	}
}

// P7.1: New.

func TestNew(t *testing.T) {
	for _, kind := range kinds {
		for _, offer := range offers(kind) {
			if d, e := New(kind, offer); e != api.OK || d != (api.Dev{Kind: kind, Offer: offer}) {
				t.Errorf("%d %x: %v %d", kind, offer, d, e)
			}
		}
		for b := range 64 {
			d, e := New(kind, v1|1<<b)
			if feat.All(kind)>>b&1 == 1 {
				if e != api.OK || d != (api.Dev{Kind: kind, Offer: v1 | 1<<b}) {
					t.Error(kind, b, d, e)
				}
			} else if e != api.ErrArg || d != (api.Dev{}) {
				t.Error(kind, b, d, e)
			}
		}
	}
}

func TestNewWrong(t *testing.T) {
	for _, kind := range kinds {
		for _, offer := range wrongOffers(kind) {
			if d, e := New(kind, offer); e != api.ErrArg || d != (api.Dev{}) {
				t.Errorf("%d %x: %v %d", kind, offer, d, e)
			}
		}
	}
	for _, kind := range wrongKinds {
		for _, offer := range []uint64{0, v1, full, v1 | flush, set(32, 28)} {
			if d, e := New(kind, offer); e != api.ErrArg || d != (api.Dev{}) {
				t.Errorf("%d %x: %v %d", kind, offer, d, e)
			}
		}
	}
}

// P7.1: Check.

func TestCheck(t *testing.T) {
	for _, c := range []struct {
		d    api.Dev
		want api.Errno
	}{
		{api.Dev{}, api.ErrArg},
		{api.Dev{Kind: blk, Offer: v1}, api.OK},
		{api.Dev{Kind: blk}, api.ErrArg},
		{api.Dev{Offer: v1}, api.ErrArg},
		{api.Dev{Kind: 4, Offer: v1}, api.ErrArg},
		{api.Dev{Kind: blk, Offer: flush}, api.ErrArg},
		{api.Dev{Kind: blk, Offer: v1 | 1}, api.ErrArg},
		{api.Dev{Kind: cons, Offer: v1 | 1}, api.OK},
		// The offer need not be closed.
		{api.Dev{Kind: net, Offer: set(32, 19)}, api.OK},
		// Each bit with and without what it is set only with.
		{api.Dev{Kind: blk, Offer: v1, Status: 1}, api.OK},
		{api.Dev{Kind: blk, Offer: v1, Status: 2}, api.ErrArg},
		{api.Dev{Kind: blk, Offer: v1, Status: 3}, api.OK},
		{api.Dev{Kind: blk, Offer: v1, Status: 128}, api.OK},
		{api.Dev{Kind: blk, Offer: v1, Status: 16}, api.ErrArg},
		{api.Dev{Kind: blk, Offer: v1, Status: 32}, api.ErrArg},
		{api.Dev{Kind: blk, Offer: v1, Status: 255}, api.ErrArg},
		{api.Dev{Kind: blk, Offer: v1, Guest: v1, Status: 255}, api.ErrArg},
		{api.Dev{Kind: blk, Offer: v1, Guest: v1, Status: 3}, api.OK},
		{api.Dev{Kind: blk, Offer: v1, Guest: v1, Status: 11}, api.OK},
		{api.Dev{Kind: blk, Offer: v1, Guest: v1, Status: 10}, api.ErrArg},
		{api.Dev{Kind: blk, Offer: v1, Guest: v1, Status: 9}, api.ErrArg},
		{api.Dev{Kind: blk, Offer: v1, Guest: v1, Status: 8}, api.ErrArg},
		{api.Dev{Kind: blk, Offer: v1, Guest: v1, Status: 15}, api.OK},
		{api.Dev{Kind: blk, Offer: v1, Guest: v1, Status: 7}, api.ErrArg},
		{api.Dev{Kind: blk, Offer: v1, Guest: v1, Status: 79}, api.OK},
		{api.Dev{Kind: blk, Offer: v1, Guest: v1, Status: 75}, api.ErrArg},
		{api.Dev{Kind: blk, Offer: v1, Guest: v1, Status: 67}, api.ErrArg},
		{api.Dev{Kind: blk, Offer: v1, Status: 64}, api.ErrArg},
		{api.Dev{Kind: blk, Offer: v1, Guest: v1, Status: 207}, api.OK},
		// StFeat without a Guest that is accepted.
		{api.Dev{Kind: blk, Offer: v1, Status: 11}, api.ErrArg},
		{api.Dev{Kind: blk, Offer: v1, Guest: flush, Status: 11}, api.ErrArg},
		{api.Dev{Kind: blk, Offer: v1, Guest: v1 | flush, Status: 11}, api.ErrArg},
		{api.Dev{Kind: blk, Offer: v1 | flush, Guest: flush, Status: 11}, api.ErrArg},
		{api.Dev{Kind: blk, Offer: v1 | flush, Guest: v1 | flush, Status: 11}, api.OK},
		{api.Dev{Kind: net, Offer: set(32, 19), Guest: set(32, 19), Status: 11}, api.ErrArg},
		{api.Dev{Kind: net, Offer: set(32, 17, 19), Guest: set(32, 19), Status: 15}, api.ErrArg},
		{api.Dev{Kind: net, Offer: set(32, 17, 19), Guest: set(32, 17, 19), Status: 15}, api.OK},
		// A Guest: without StDriver none, with it any, until StFeat.
		{api.Dev{Kind: blk, Offer: v1, Guest: v1}, api.ErrArg},
		{api.Dev{Kind: blk, Offer: v1, Guest: v1, Status: 1}, api.ErrArg},
		{api.Dev{Kind: blk, Offer: v1, Guest: v1, Status: 129}, api.ErrArg},
		{api.Dev{Kind: blk, Offer: v1, Guest: 1 << 63, Status: 1}, api.ErrArg},
		{api.Dev{Kind: blk, Offer: v1, Guest: full, Status: 3}, api.OK},
		{api.Dev{Kind: blk, Offer: v1, Guest: flush, Status: 131}, api.OK},
	} {
		if e := Check(c.d); e != c.want {
			t.Errorf("%v: %d", c.d, e)
		}
	}
}

func TestCheckModel(t *testing.T) {
	count := 0
	for d := range validDevices {
		if e := Check(d); e != api.OK {
			t.Errorf("%v: %d", d, e)
		}
		count++
	}
	if count < 500 {
		t.Error(count)
	}
	for d := range wrongDevices {
		if e := Check(d); e != api.ErrArg {
			t.Errorf("%v: %d", d, e)
		}
	}
}

// A state that is not valid stays as it is, and has nothing else.
func TestWrongDevices(t *testing.T) {
	for d := range wrongDevices {
		for _, word := range []byte{0, 1, 2, 3, 8, 11, 15, 64, 128, 255} {
			if got := Write(d, word); got != d {
				t.Fatalf("%v %d: %v", d, word, got)
			}
		}
		for _, s := range []uint64{0, v1, full} {
			if got := Ask(d, s); got != d {
				t.Fatalf("%v %x: %v", d, s, got)
			}
			if got, e := Init(d, s); e != api.ErrArg || got != (api.Dev{}) {
				t.Fatalf("%v %x: %v %d", d, s, got, e)
			}
		}
		if got, e := Break(d); e != api.ErrArg || got != (api.Dev{}) {
			t.Fatalf("%v: %v %d", d, got, e)
		}
		if Runs(d) {
			t.Fatalf("%v runs", d)
		}
		if g, is := Fixed(d); g != 0 || is {
			t.Fatalf("%v: %x %t", d, g, is)
		}
	}
}

// P7.1: Write.

func TestWrite(t *testing.T) {
	const open = v1 | flush
	for _, c := range []struct {
		status byte
		guest  uint64
		word   byte
		want   byte
		kept   uint64
	}{
		// A reset.
		{0, 0, 0, 0, 0}, {1, 0, 0, 0, 0}, {3, full, 0, 0, 0}, {11, v1, 0, 0, 0}, {15, v1, 0, 0, 0}, {79, v1, 0, 0, 0}, {207, v1, 0, 0, 0}, {128, 0, 0, 0, 0},
		// StDriver only with StAck; both at once.
		{0, 0, 1, 1, 0}, {0, 0, 2, 0, 0}, {0, 0, 3, 3, 0}, {1, 0, 2, 3, 0}, {1, 0, 3, 3, 0}, {128, 0, 2, 128, 0}, {128, 0, 3, 131, 0},
		// What is set stays.
		{1, 0, 128, 129, 0}, {3, v1, 1, 3, v1}, {3, v1, 2, 3, v1}, {11, v1, 1, 11, v1}, {15, v1, 1, 15, v1}, {15, v1, 128, 143, v1}, {79, v1, 1, 79, v1}, {143, v1, 15, 143, v1},
		// StFeat only with StDriver and a Guest that is accepted.
		{0, 0, 8, 0, 0}, {1, 0, 8, 1, 0}, {1, 0, 9, 1, 0}, {3, 0, 8, 3, 0}, {3, 0, 11, 3, 0}, {3, flush, 11, 3, flush}, {3, v1 | ro, 11, 3, v1 | ro}, {3, full, 11, 3, full},
		{3, v1, 8, 11, v1}, {3, v1, 9, 11, v1}, {3, v1, 10, 11, v1}, {3, v1, 11, 11, v1}, {3, open, 11, 11, open}, {131, v1, 8, 139, v1},
		// StLive only with StFeat; both at once, though its bit is lower.
		{0, 0, 4, 0, 0}, {1, 0, 4, 1, 0}, {3, v1, 4, 3, v1}, {3, v1, 7, 3, v1}, {3, v1, 12, 15, v1}, {3, v1, 15, 15, v1}, {3, flush, 15, 3, flush}, {11, v1, 4, 15, v1}, {11, v1, 15, 15, v1},
		// All at once.
		{0, 0, 15, 3, 0}, {0, 0, 255, 131, 0}, {3, v1, 255, 143, v1}, {0, 0, 127, 3, 0},
		// StFailed at any time; what comes after it is as before.
		{0, 0, 128, 128, 0}, {0, 0, 129, 129, 0}, {0, 0, 130, 128, 0}, {3, full, 128, 131, full}, {139, v1, 4, 143, v1},
		// StNeeds and what is no bit can not be written.
		{0, 0, 64, 0, 0}, {3, v1, 64, 3, v1}, {11, v1, 64, 11, v1}, {15, v1, 64, 15, v1}, {15, v1, 79, 15, v1}, {15, v1, 255, 143, v1},
		{0, 0, 16, 0, 0}, {0, 0, 32, 0, 0}, {1, 0, 48, 1, 0}, {15, v1, 112, 15, v1}, {79, v1, 64, 79, v1}, {79, v1, 15, 79, v1}, {79, v1, 128, 207, v1},
	} {
		d := api.Dev{Kind: blk, Offer: v1 | flush, Guest: c.guest, Status: c.status}
		want := api.Dev{Kind: blk, Offer: v1 | flush, Guest: c.kept, Status: c.want}
		if got := Write(d, c.word); got != want {
			t.Errorf("%v %d: %v, not %v", d, c.word, got, want)
		}
	}
}

// All words in all valid states.
func TestWriteModel(t *testing.T) {
	for d := range validDevices {
		for word := range 256 {
			if got, want := Write(d, byte(word)), written(d, byte(word)); got != want {
				t.Fatalf("%v %d: %v, not %v", d, word, got, want)
			}
		}
	}
}

// The examples of the chapter.
func TestExamples(t *testing.T) {
	fresh, e := New(blk, v1|flush)
	if e != api.OK {
		t.Fatal(e)
	}
	for _, c := range []struct {
		first []byte
		ask   uint64
		last  []byte
		want  byte
	}{
		{[]byte{1, 3}, v1, []byte{11, 15}, 15},
		{[]byte{1, 3}, flush, []byte{11}, 3},
		{nil, 0, []byte{15}, 3},
	} {
		d := fresh
		for _, word := range c.first {
			d = Write(d, word)
		}
		if c.ask != 0 {
			d = Ask(d, c.ask)
		}
		for _, word := range c.last {
			d = Write(d, word)
		}
		if d != (api.Dev{Kind: blk, Offer: v1 | flush, Guest: c.ask, Status: c.want}) {
			t.Error(c, d)
		}
	}
}

// P7.1: Ask.

func TestAsk(t *testing.T) {
	for _, c := range []struct {
		status   byte
		old, set uint64
		want     uint64
		why      string
	}{
		{0, 0, v1, 0, "without StDriver"},
		{1, 0, v1, 0, "without StDriver"},
		{128, 0, full, 0, "without StDriver"},
		{129, 0, v1, 0, "without StDriver"},
		{3, 0, v1, v1, ""},
		{3, v1, 0, 0, ""},
		{3, v1, flush, flush, ""},
		{3, v1 | flush, v1, v1, ""},
		{3, 0, full, full, ""},
		{3, full, 1 << 63, 1 << 63, ""},
		{131, 0, v1 | ro, v1 | ro, ""},
		{11, v1, v1 | flush, v1, "with StFeat"},
		{11, v1 | flush, 0, v1 | flush, "with StFeat"},
		{15, v1, flush, v1, "with StFeat"},
		{79, v1, full, v1, "with StFeat"},
		{143, v1, 0, v1, "with StFeat"},
	} {
		d := api.Dev{Kind: blk, Offer: v1 | flush, Guest: c.old, Status: c.status}
		want := api.Dev{Kind: blk, Offer: v1 | flush, Guest: c.want, Status: c.status}
		if got := Ask(d, c.set); got != want {
			t.Errorf("%v %x %s: %v, not %v", d, c.set, c.why, got, want)
		}
	}
}

func TestAskModel(t *testing.T) {
	for d := range validDevices {
		for _, s := range someSets(d.Offer) {
			if got, want := Ask(d, s), asked(d, s); got != want {
				t.Fatalf("%v %x: %v, not %v", d, s, got, want)
			}
		}
	}
}

// P7.1: Break, Runs and Fixed.

func TestBreak(t *testing.T) {
	for d := range validDevices {
		got, e := Break(d)
		if d.Status&4 == 0 {
			if e != api.ErrState || got != (api.Dev{}) {
				t.Fatalf("%v: %v %d", d, got, e)
			}
			continue
		}
		want := d
		want.Status |= 64
		if e != api.OK || got != want || Check(got) != api.OK || Runs(got) {
			t.Fatalf("%v: %v %d", d, got, e)
		}
		if again, e := Break(got); e != api.OK || again != got {
			t.Fatalf("%v: %v %d", got, again, e)
		}
	}
}

func TestRuns(t *testing.T) {
	for d := range validDevices {
		if Runs(d) != (d.Status == 15) {
			t.Fatalf("%v: %t", d, Runs(d))
		}
	}
}

func TestFixed(t *testing.T) {
	for d := range validDevices {
		want := uint64(0)
		if d.Status&8 != 0 {
			want = d.Guest
		}
		if g, is := Fixed(d); g != want || is != (d.Status&8 != 0) {
			t.Fatalf("%v: %x %t", d, g, is)
		}
	}
}

// P7.2.

func TestInit(t *testing.T) {
	for _, c := range []struct {
		kind              int
		offer, want, best uint64
	}{
		{blk, v1 | flush, 0, v1},
		{blk, v1 | flush, v1, v1},
		{blk, v1 | flush, flush, v1 | flush},
		{blk, v1 | flush, full, v1 | flush},
		{blk, v1, full, v1},
		{blk, v1 | flush, ro, v1},
		{net, set(32, 19), full, v1},
		{net, set(32, 17, 19), set(19), v1},
		{net, set(32, 17, 19), set(17, 19), set(32, 17, 19)},
		{net, set(32, 17, 23), full, set(32, 17)},
		{cons, set(32, 1), set(0, 1), set(32, 1)},
	} {
		d := api.Dev{Kind: c.kind, Offer: c.offer}
		want := api.Dev{Kind: c.kind, Offer: c.offer, Guest: c.best, Status: 15}
		if got, e := Init(d, c.want); e != api.OK || got != want {
			t.Errorf("%v %x: %v %d, not %v", d, c.want, got, e, want)
		}
	}
}

// Init from every state is what the writes that the chapter names do, and after it the device runs (P7.3).
func TestInitModel(t *testing.T) {
	for d := range validDevices {
		for _, s := range someSets(d.Offer) {
			best, e := feat.Best(d.Kind, d.Offer, s)
			if e != api.OK {
				t.Fatal(d, e)
			}
			want := written(written(written(d, 0), 1), 3)
			want = written(written(asked(want, best), 11), 15)
			got, e := Init(d, s)
			if e != api.OK || got != want || got != (api.Dev{Kind: d.Kind, Offer: d.Offer, Guest: best, Status: 15}) {
				t.Fatalf("%v %x: %v %d, not %v", d, s, got, e, want)
			}
			if g, is := Fixed(got); !Runs(got) || g != best || !is || !accepted(d.Kind, d.Offer, g) {
				t.Fatalf("%v %x: %v %x %t", d, s, got, g, is)
			}
		}
	}
}

// P7.3.

// next is all states that one write, one request or one break leads to.
func next(d api.Dev, sets []uint64) []api.Dev {
	l := []api.Dev{}
	for word := range 256 {
		l = append(l, Write(d, byte(word)))
	}
	for _, s := range sets {
		l = append(l, Ask(d, s))
	}
	if b, e := Break(d); e == api.OK {
		l = append(l, b)
	}
	return l
}

// reached is all states that a new device gets to, in any order of writes, requests and breaks.
func reached(d api.Dev, sets []uint64) map[api.Dev]bool {
	seen := map[api.Dev]bool{d: true}
	for l := []api.Dev{d}; len(l) > 0; l = l[1:] {
		for _, n := range next(l[0], sets) {
			if !seen[n] {
				seen[n] = true
				l = append(l, n)
			}
		}
	}
	return seen
}

// The states that are reached are the valid ones: no others, and all of them.
func TestReached(t *testing.T) {
	for _, kind := range kinds {
		for _, offer := range offers(kind) {
			d, e := New(kind, offer)
			if e != api.OK {
				t.Fatal(e)
			}
			sets := someSets(offer)
			want := len(freshStatuses) + len(openStatuses)*len(sets)
			for _, s := range sets {
				if accepted(kind, offer, s) {
					want += len(fixedStatuses)
				}
			}
			all := reached(d, sets)
			for r := range all {
				if !valid(r) || Check(r) != api.OK || r.Kind != kind || r.Offer != offer {
					t.Fatalf("%v", r)
				}
				if g, is := Fixed(r); is && !feat.Accept(kind, offer, g) || !is && r.Status&(4|64) != 0 {
					t.Fatalf("%v: %x %t", r, g, is)
				}
			}
			if len(all) != want {
				t.Errorf("%d %x: %d states, not %d", kind, offer, len(all), want)
			}
		}
	}
}

// A Guest that is fixed stays, and so does StFeat, until a reset.
func TestFixedStays(t *testing.T) {
	count := 0
	for d := range validDevices {
		if d.Status&8 == 0 {
			continue
		}
		count++
		after := []api.Dev{}
		for word := 1; word < 256; word++ {
			after = append(after, Write(d, byte(word)))
		}
		for _, s := range someSets(d.Offer) {
			after = append(after, Ask(d, s))
		}
		if b, e := Break(d); e == api.OK {
			after = append(after, b)
		}
		for _, n := range after {
			if g, is := Fixed(n); g != d.Guest || !is || n.Status&d.Status != d.Status {
				t.Fatalf("%v: %v %x %t", d, n, g, is)
			}
		}
		if n := Write(d, 0); n != (api.Dev{Kind: d.Kind, Offer: d.Offer}) {
			t.Fatalf("%v: %v", d, n)
		}
	}
	if count < 100 {
		t.Error(count)
	}
}

// Long runs of any writes, requests of any sets, and breaks, beside the model.
func TestLongRuns(t *testing.T) {
	rnd := rand.New(rand.NewSource(7))
	lives := 0
	for range 200 {
		kind := kinds[rnd.Intn(3)]
		offer := v1 | rnd.Uint64()&feat.All(kind)
		d, e := New(kind, offer)
		if e != api.OK {
			t.Fatal(e)
		}
		for range 300 {
			want := d
			switch k := rnd.Intn(8); {
			case k < 4:
				word := byte(rnd.Intn(256)) & byte(rnd.Intn(256))
				if word == 0 && rnd.Intn(4) > 0 {
					word = 15
				}
				want, d = written(d, word), Write(d, word)
			case k < 7:
				s := rnd.Uint64() & rnd.Uint64() & (offer | rnd.Uint64()&rnd.Uint64()&rnd.Uint64()&rnd.Uint64()&rnd.Uint64()) &^ set(18, 19, 22, 23)
				s |= uint64(rnd.Intn(2)) << 32
				want, d = asked(d, s), Ask(d, s)
			default:
				if b, e := Break(d); e == api.OK {
					want.Status |= 64
					d = b
				}
			}
			if d != want || !valid(d) || Check(d) != api.OK {
				t.Fatalf("%v, not %v", d, want)
			}
			if Runs(d) {
				lives++
			}
		}
	}
	if lives < 100 {
		t.Error(lives)
	}
}

// The same state gives the same answers whenever it is asked: nothing is kept from call to call.
func TestNothingIsKept(t *testing.T) {
	a := api.Dev{Kind: blk, Offer: v1 | flush, Status: 3}
	b := Ask(a, v1)
	if a.Guest != 0 || Write(a, 11).Status != 3 || Write(b, 11).Status != 11 || Write(a, 11).Status != 3 {
		t.Error(a, b)
	}
}
