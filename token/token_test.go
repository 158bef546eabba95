package token

import (
	"maps"
	"math"
	"math/rand"
	"slices"
	"testing"

	"dumbwaiter/api"
)

// The numbers of the states, the events and the errors, as the chapter has them.
const (
	free     = 0
	offered  = 1
	taken    = 2
	returned = 3

	offer   = 1
	take    = 2
	back    = 3
	reclaim = 4

	ok       = 0
	errArg   = 2
	errState = 8

	most = math.MaxUint32
)

var (
	wrongKinds  = []int{math.MinInt, -4, -1, 0, 5, 6, 1 << 32, 1<<32 + 1, math.MaxInt}
	wrongStates = []int{math.MinInt, -3, -1, 0, 4, 5, 1 << 32, 1<<32 + 1, math.MaxInt}
)

// toks is a list of tokens.
func toks(l ...api.Tok) api.Toks { return api.Toks{List: l} }

// valid tells by the words of the chapter whether tokens are.
func valid(t api.Toks) bool {
	last := -1
	for _, k := range t.List {
		if k.Token <= last || k.State < offered || k.State > returned {
			return false
		}
		if k.State != returned && k.Written != 0 {
			return false
		}
		last = k.Token
	}
	return true
}

// happens tells by the words of the chapter whether an event is valid.
func happens(e api.TokEv) bool {
	if e.Token < 0 || e.Kind < offer || e.Kind > reclaim {
		return false
	}
	return e.Written == 0 || e.Kind == back || e.Kind == reclaim
}

// owner is what is known of one token.
type owner struct {
	state   int
	written uint32
}

// model is the automaton by the words of the chapter, with each token that is not free.
type model map[int]owner

// modelOf is the model of tokens that are valid.
func modelOf(t api.Toks) model {
	m := model{}
	for _, k := range t.List {
		m[k.Token] = owner{k.State, k.Written}
	}
	return m
}

// step does an event, and returns its error; beside one nothing is changed.
func (m model) step(e api.TokEv) api.Errno {
	if !happens(e) {
		return errArg
	}
	o := m[e.Token]
	switch {
	case e.Kind == offer && o.state == free:
		m[e.Token] = owner{offered, 0}
	case e.Kind == take && o.state == offered:
		m[e.Token] = owner{taken, 0}
	case e.Kind == back && o.state == taken:
		m[e.Token] = owner{returned, e.Written}
	case e.Kind == reclaim && o.state == returned && o.written == e.Written:
		delete(m, e.Token)
	default:
		return errState
	}
	return ok
}

// list is the tokens of a model.
func (m model) list() []api.Tok {
	var l []api.Tok
	for _, n := range slices.Sorted(maps.Keys(m)) {
		l = append(l, api.Tok{Token: n, State: m[n].state, Written: m[n].written})
	}
	return l
}

// someToks is each token of a few, in all states and beyond, with some numbers.
func someToks() []api.Tok {
	var l []api.Tok
	for n := -1; n <= 2; n++ {
		for state := -1; state <= 4; state++ {
			l = append(l, api.Tok{Token: n, State: state}, api.Tok{Token: n, State: state, Written: 7})
		}
	}
	return l
}

// shortLists goes through all lists of at most n of someToks, valid or not.
func shortLists(n int) func(func(api.Toks) bool) {
	var more func(l []api.Tok, n int, yield func(api.Toks) bool) bool
	more = func(l []api.Tok, n int, yield func(api.Toks) bool) bool {
		if !yield(toks(l...)) {
			return false
		}
		if n == 0 {
			return true
		}
		for _, k := range someToks() {
			if !more(append(slices.Clip(l), k), n-1, yield) {
				return false
			}
		}
		return true
	}
	return func(yield func(api.Toks) bool) { more(nil, n, yield) }
}

// someEvents is events of a few tokens, valid or not.
func someEvents() []api.TokEv {
	var l []api.TokEv
	for kind := -1; kind <= 6; kind++ {
		for n := -1; n <= 3; n++ {
			for _, w := range []uint32{0, 1, 7, most} {
				l = append(l, api.TokEv{Kind: kind, Token: n, Written: w})
			}
		}
	}
	return l
}

// wrongLists is lists that are not valid: not ascending, with a token below 0, in a state that is none of theirs, or with a number too many.
func wrongLists() []api.Toks {
	l := []api.Toks{
		toks(api.Tok{}),
		toks(api.Tok{Token: -1, State: offered}),
		toks(api.Tok{Token: math.MinInt, State: taken}),
		toks(api.Tok{Token: -1, State: returned, Written: 5}),
		toks(api.Tok{Token: 1, State: offered, Written: 1}),
		toks(api.Tok{Token: 1, State: taken, Written: most}),
		toks(api.Tok{Token: 2, State: offered}, api.Tok{Token: 2, State: offered}),
		toks(api.Tok{Token: 2, State: offered}, api.Tok{Token: 2, State: taken}),
		toks(api.Tok{Token: 2, State: offered}, api.Tok{Token: 1, State: offered}),
		toks(api.Tok{Token: 0, State: offered}, api.Tok{Token: 9, State: taken}, api.Tok{Token: 8, State: taken}),
		toks(api.Tok{Token: 0, State: offered}, api.Tok{Token: 9, State: taken}, api.Tok{Token: 9, State: returned, Written: 5}),
		toks(api.Tok{Token: 0, State: offered}, api.Tok{Token: 1, State: free}, api.Tok{Token: 2, State: taken}),
		toks(api.Tok{Token: -1, State: offered}, api.Tok{Token: 0, State: offered}),
		toks(api.Tok{Token: math.MaxInt, State: offered}, api.Tok{Token: math.MinInt, State: offered}),
	}
	for _, state := range wrongStates {
		l = append(l, toks(api.Tok{Token: 1, State: state}), toks(api.Tok{Token: 0, State: offered}, api.Tok{Token: 1, State: state}))
	}
	return l
}

// checkStep compares Step with the words of the chapter.
func checkStep(t *testing.T, x api.Toks, e api.TokEv) {
	t.Helper()
	y, wrong := Step(x, e)
	want := api.Errno(errArg)
	var list []api.Tok
	if valid(x) {
		m := modelOf(x)
		if want = m.step(e); want == ok {
			list = m.list()
		}
	}
	if wrong != want || !slices.Equal(y.List, list) {
		t.Errorf("Step(%v, %v) = %v, %d, want %v, %d", x, e, y, wrong, list, want)
	}
	if wrong != ok && y.List != nil {
		t.Errorf("Step(%v, %v) = %v beside error %d", x, e, y, wrong)
	}
}

// checkRun compares Run with the words of the chapter.
func checkRun(t *testing.T, l []api.TokEv) {
	t.Helper()
	m, at, want := model{}, -1, api.Errno(ok)
	for i, e := range l {
		if want = m.step(e); want != ok {
			at = i
			break
		}
	}
	x, n, e := Run(l)
	if e != want || n != at || !slices.Equal(x.List, m.list()) {
		t.Errorf("Run(%v) = %v, %d, %d, want %v, %d, %d", l, x, n, e, m.list(), at, want)
	}
}

// checkAsked compares Check, State, Count and All with the words of the chapter.
func checkAsked(t *testing.T, x api.Toks, tokens []int) {
	t.Helper()
	e, m := api.Errno(errArg), model{}
	if valid(x) {
		e, m = ok, modelOf(x)
	}
	if Check(x) != e {
		t.Errorf("Check(%v) = %d, want %d", x, Check(x), e)
	}
	for _, n := range tokens {
		if State(x, n) != m[n].state {
			t.Errorf("State(%v, %d) = %d, want %d", x, n, State(x, n), m[n].state)
		}
	}
	for _, state := range append(wrongStates, offered, taken, returned) {
		var want []int
		for _, k := range m.list() {
			if k.State == state {
				want = append(want, k.Token)
			}
		}
		if l := All(x, state); !slices.Equal(l, want) || Count(x, state) != len(want) {
			t.Errorf("All(%v, %d) = %v, Count %d, want %v", x, state, l, Count(x, state), want)
		}
	}
}

// The numbers of api are those of the document.
func TestNumbers(t *testing.T) {
	if api.TokFree != free || api.TokOffered != offered || api.TokTaken != taken || api.TokReturned != returned {
		t.Error(api.TokFree, api.TokOffered, api.TokTaken, api.TokReturned)
	}
	if api.EvOffer != offer || api.EvTake != take || api.EvReturn != back || api.EvReclaim != reclaim {
		t.Error(api.EvOffer, api.EvTake, api.EvReturn, api.EvReclaim)
	}
	if api.OK != ok || api.ErrArg != errArg || api.ErrState != errState {
		t.Error(api.OK, api.ErrArg, api.ErrState)
	}
}

// P11.1: the chapter's examples.
func TestExamples(t *testing.T) {
	l := []api.TokEv{{Kind: offer, Token: 3}, {Kind: take, Token: 3}, {Kind: back, Token: 3, Written: 5}, {Kind: reclaim, Token: 3, Written: 5}}
	if x, n, e := Run(l); len(x.List) != 0 || n != -1 || e != ok {
		t.Error(x, n, e)
	}
	l = []api.TokEv{{Kind: offer, Token: 3}, {Kind: back, Token: 3, Written: 5}}
	if x, n, e := Run(l); n != 1 || e != errState || !Same(x, toks(api.Tok{Token: 3, State: offered})) {
		t.Error(x, n, e)
	}
}

// P11.1: Check tells which tokens are valid, at the edges of all that they have.
func TestCheck(t *testing.T) {
	for _, x := range []api.Toks{
		{},
		{List: []api.Tok{}},
		toks(api.Tok{Token: 0, State: offered}),
		toks(api.Tok{Token: 0, State: taken}),
		toks(api.Tok{Token: 0, State: returned}),
		toks(api.Tok{Token: 0, State: returned, Written: 1}),
		toks(api.Tok{Token: math.MaxInt, State: returned, Written: most}),
		toks(api.Tok{Token: 0, State: offered}, api.Tok{Token: 1, State: taken}, api.Tok{Token: math.MaxInt, State: returned, Written: 9}),
		toks(api.Tok{Token: 4, State: returned, Written: 9}, api.Tok{Token: 1 << 40, State: returned, Written: 9}),
	} {
		if e := Check(x); e != ok {
			t.Errorf("Check(%v) = %d", x, e)
		}
	}
	for _, x := range wrongLists() {
		if e := Check(x); e != errArg {
			t.Errorf("Check(%v) = %d", x, e)
		}
	}
}

// P11.1, P11.2: Check, State, Count and All on all lists of up to three tokens, valid or not.
func TestShortLists(t *testing.T) {
	for x := range shortLists(3) {
		want := api.Errno(errArg)
		if valid(x) {
			want = ok
		}
		if e := Check(x); e != want {
			t.Fatalf("Check(%v) = %d, want %d", x, e, want)
		}
		if len(x.List) < 3 || want == ok {
			checkAsked(t, x, []int{math.MinInt, -1, 0, 1, 2, 3, math.MaxInt})
		}
	}
}

// P11.1: Step on all lists of up to two tokens, valid or not, and on all valid ones of three, with all kinds of events.
func TestStep(t *testing.T) {
	events := someEvents()
	for x := range shortLists(2) {
		for _, e := range events {
			checkStep(t, x, e)
		}
	}
	for x := range shortLists(3) {
		if len(x.List) == 3 && valid(x) {
			for _, e := range events {
				checkStep(t, x, e)
			}
		}
	}
}

// P11.1: each state goes to the next one by its own event alone, with the numbers that belong to it.
func TestStates(t *testing.T) {
	const w = 9
	for _, n := range []int{0, 1, 5, 1 << 32, math.MaxInt} {
		for _, c := range []struct {
			from, kind int
			number     uint32
			to         []api.Tok
			e          api.Errno
		}{
			{free, offer, 0, []api.Tok{{Token: n, State: offered}}, ok},
			{free, take, 0, nil, errState},
			{free, back, w, nil, errState},
			{free, reclaim, 0, nil, errState},
			{free, reclaim, w, nil, errState},
			{offered, offer, 0, nil, errState},
			{offered, take, 0, []api.Tok{{Token: n, State: taken}}, ok},
			{offered, back, w, nil, errState},
			{offered, reclaim, 0, nil, errState},
			{taken, offer, 0, nil, errState},
			{taken, take, 0, nil, errState},
			{taken, back, 0, []api.Tok{{Token: n, State: returned}}, ok},
			{taken, back, w, []api.Tok{{Token: n, State: returned, Written: w}}, ok},
			{taken, back, most, []api.Tok{{Token: n, State: returned, Written: most}}, ok},
			{taken, reclaim, 0, nil, errState},
			{returned, offer, 0, nil, errState},
			{returned, take, 0, nil, errState},
			{returned, back, w, nil, errState},
			{returned, reclaim, w, nil, ok},
			{returned, reclaim, w - 1, nil, errState},
			{returned, reclaim, w + 1, nil, errState},
			{returned, reclaim, 0, nil, errState},
			{returned, reclaim, most, nil, errState},
		} {
			x := api.Toks{}
			switch c.from {
			case offered, taken:
				x = toks(api.Tok{Token: n, State: c.from})
			case returned:
				x = toks(api.Tok{Token: n, State: c.from, Written: w})
			}
			y, e := Step(x, api.TokEv{Kind: c.kind, Token: n, Written: c.number})
			if e != c.e || !slices.Equal(y.List, c.to) {
				t.Errorf("event %d (%d) of %v: %v, %d", c.kind, c.number, x, y, e)
			}
		}
	}
}

// P11.1: Step returns ErrArg for an event that is not valid, also where its token is in another state.
func TestWrongEvents(t *testing.T) {
	x := toks(api.Tok{Token: 1, State: offered}, api.Tok{Token: 2, State: taken}, api.Tok{Token: 3, State: returned, Written: 4})
	var l []api.TokEv
	for n := range 5 {
		for _, kind := range wrongKinds {
			l = append(l, api.TokEv{Kind: kind, Token: n}, api.TokEv{Kind: kind, Token: n, Written: 4})
		}
		for _, w := range []uint32{1, 4, most} {
			l = append(l, api.TokEv{Kind: offer, Token: n, Written: w}, api.TokEv{Kind: take, Token: n, Written: w})
		}
	}
	for kind := offer; kind <= reclaim; kind++ {
		l = append(l, api.TokEv{Kind: kind, Token: -1}, api.TokEv{Kind: kind, Token: math.MinInt}, api.TokEv{Kind: kind, Token: -1, Written: 4})
	}
	for _, e := range l {
		if y, wrong := Step(x, e); wrong != errArg || y.List != nil {
			t.Errorf("Step(%v, %v) = %v, %d", x, e, y, wrong)
		}
		if y, n, wrong := Run([]api.TokEv{{Kind: offer, Token: 7}, e}); wrong != errArg || n != 1 || !Same(y, toks(api.Tok{Token: 7, State: offered})) {
			t.Errorf("Run of %v = %v, %d, %d", e, y, n, wrong)
		}
		if y, n, wrong := Run([]api.TokEv{e}); wrong != errArg || n != 0 || len(y.List) != 0 {
			t.Errorf("Run of %v alone = %v, %d, %d", e, y, n, wrong)
		}
	}
}

// P11.1, P11.2: tokens that are not valid are rejected by Step with ErrArg, whatever the event is, and the others return nothing.
func TestNotValid(t *testing.T) {
	for _, x := range wrongLists() {
		if valid(x) {
			t.Fatal(x)
		}
		checkAsked(t, x, []int{math.MinInt, -1, 0, 1, 2, 3, 8, 9, math.MaxInt})
		for _, e := range someEvents() {
			checkStep(t, x, e)
		}
		checkStep(t, x, api.TokEv{Kind: offer, Token: 100})
	}
}

// P11.1: Run starts without tokens; nothing happens without events.
func TestNoEvents(t *testing.T) {
	for _, l := range [][]api.TokEv{nil, {}} {
		if x, n, e := Run(l); len(x.List) != 0 || n != -1 || e != ok {
			t.Error(x, n, e)
		}
	}
}

// P11.1: all short runs of two tokens, with events that are wrong among them.
func TestShortRuns(t *testing.T) {
	var events []api.TokEv
	for _, n := range []int{0, 6} {
		events = append(events,
			api.TokEv{Kind: offer, Token: n}, api.TokEv{Kind: take, Token: n},
			api.TokEv{Kind: back, Token: n}, api.TokEv{Kind: back, Token: n, Written: 3},
			api.TokEv{Kind: reclaim, Token: n}, api.TokEv{Kind: reclaim, Token: n, Written: 3})
	}
	events = append(events, api.TokEv{Kind: take, Token: 0, Written: 3}, api.TokEv{Kind: 5, Token: 6}, api.TokEv{Kind: offer, Token: -1})
	var all func(l []api.TokEv, n int)
	all = func(l []api.TokEv, n int) {
		checkRun(t, l)
		if n == 0 {
			return
		}
		for _, e := range events {
			all(append(slices.Clip(l), e), n-1)
		}
	}
	all(nil, 4)
}

// someRun is a run of some tokens, which is OK; where the numbers of tokens are as far from each other as gap.
func someRun(r *rand.Rand, n, tokens, gap int) []api.TokEv {
	m := model{}
	var l []api.TokEv
	for range n {
		e := api.TokEv{Token: r.Intn(tokens) * gap}
		o := m[e.Token]
		e.Kind = o.state + 1
		switch o.state {
		case taken:
			e.Written = []uint32{0, 1, most, r.Uint32()}[r.Intn(4)]
		case returned:
			e.Written = o.written
		}
		m.step(e)
		l = append(l, e)
	}
	return l
}

// P11.1: long runs at random: the tokens after all events, or before the first one that is rejected, and the same as by Step.
func TestLongRuns(t *testing.T) {
	r := rand.New(rand.NewSource(11))
	for i := range 300 {
		l := someRun(r, r.Intn(200), 1+r.Intn(20), 1+i*i)
		checkRun(t, l)
		x := api.Toks{}
		for _, e := range l {
			checkStep(t, x, e)
			x, _ = Step(x, e)
		}
		if y, n, e := Run(l); !Same(x, y) || n != -1 || e != ok {
			t.Errorf("Run(%v) = %v, %d, %d, not %v", l, y, n, e, x)
		}
		checkAsked(t, x, []int{-1, 0, 1 + i*i, 5 * (1 + i*i), 5*(1+i*i) + 1})
		if len(l) == 0 {
			continue
		}
		at := r.Intn(len(l))
		wrong := slices.Clone(l)
		wrong[at].Kind, wrong[at].Written = r.Intn(6), wrong[at].Written+uint32(r.Intn(2))
		checkRun(t, wrong)
		checkRun(t, slices.Delete(slices.Clone(l), at, at+1))
		checkRun(t, slices.Insert(slices.Clone(l), at, l[at]))
	}
}

// P11.1: what comes after an event that is rejected counts for nothing, whatever it is.
func TestAfterRejected(t *testing.T) {
	want := toks(api.Tok{Token: 4, State: taken})
	for _, last := range []api.TokEv{{}, {Kind: offer, Token: 9}, {Kind: back, Token: 4, Written: 1}, {Kind: offer, Token: -5}, {Kind: take, Token: 4, Written: 1}} {
		l := []api.TokEv{{Kind: offer, Token: 4}, {Kind: take, Token: 4}, {Kind: take, Token: 4}, last}
		if x, n, e := Run(l); n != 2 || e != errState || !Same(x, want) {
			t.Errorf("Run(%v) = %v, %d, %d", l, x, n, e)
		}
	}
}

// P11.1: many tokens, in descending order, and around once more.
func TestMany(t *testing.T) {
	const many = 200_000
	var l []api.TokEv
	for n := many - 1; n >= 0; n-- {
		l = append(l, api.TokEv{Kind: offer, Token: 3 * n})
	}
	x, at, e := Run(l)
	if at != -1 || e != ok || len(x.List) != many || Check(x) != ok || Count(x, offered) != many {
		t.Fatal(len(x.List), at, e)
	}
	if State(x, 3*many-3) != offered || State(x, 3*many-2) != free || State(x, 0) != offered || State(x, 1) != free {
		t.Error("a token was not found, or another one was")
	}
	for n := range many {
		l = append(l, api.TokEv{Kind: take, Token: 3 * n}, api.TokEv{Kind: back, Token: 3 * n, Written: uint32(n)}, api.TokEv{Kind: reclaim, Token: 3 * n, Written: uint32(n)})
	}
	if x, at, e := Run(l); at != -1 || e != ok || len(x.List) != 0 {
		t.Error(len(x.List), at, e)
	}
}

// P11.2: All tells which tokens are in a state, ascending, and State and Count tell the same.
func TestAll(t *testing.T) {
	x := toks(api.Tok{Token: 0, State: taken}, api.Tok{Token: 2, State: offered}, api.Tok{Token: 3, State: returned},
		api.Tok{Token: 7, State: taken}, api.Tok{Token: 9, State: returned, Written: 3}, api.Tok{Token: math.MaxInt, State: taken})
	for _, c := range []struct {
		state int
		want  []int
	}{{free, nil}, {offered, []int{2}}, {taken, []int{0, 7, math.MaxInt}}, {returned, []int{3, 9}}, {4, nil}, {-1, nil}, {math.MaxInt, nil}} {
		if l := All(x, c.state); !slices.Equal(l, c.want) || Count(x, c.state) != len(c.want) {
			t.Errorf("All(%d) = %v, Count %d", c.state, l, Count(x, c.state))
		}
		for _, n := range c.want {
			if State(x, n) != c.state {
				t.Errorf("State(%d) = %d", n, State(x, n))
			}
		}
	}
	for _, n := range []int{math.MinInt, -1, 1, 4, 8, 10, math.MaxInt - 1} {
		if State(x, n) != free {
			t.Errorf("State(%d) = %d", n, State(x, n))
		}
	}
}

// P11.2: Same tells two lists from each other by all that they have, valid or not.
func TestSame(t *testing.T) {
	l := append(wrongLists(),
		api.Toks{},
		toks(api.Tok{Token: 1, State: offered}),
		toks(api.Tok{Token: 2, State: offered}),
		toks(api.Tok{Token: 1, State: taken}),
		toks(api.Tok{Token: 1, State: returned}),
		toks(api.Tok{Token: 1, State: returned, Written: 1}),
		toks(api.Tok{Token: 1, State: offered}, api.Tok{Token: 2, State: offered}),
		toks(api.Tok{Token: 1, State: offered}, api.Tok{Token: 2, State: returned, Written: 6}),
		toks(api.Tok{Token: 1, State: offered}, api.Tok{Token: 2, State: returned, Written: 7}),
		toks(api.Tok{Token: 1, State: offered}, api.Tok{Token: 2, State: returned, Written: 7}, api.Tok{}),
	)
	for _, a := range l {
		for _, b := range l {
			want := len(a.List) == len(b.List)
			for i := 0; want && i < len(a.List); i++ {
				p, q := a.List[i], b.List[i]
				want = p.Token == q.Token && p.State == q.State && p.Written == q.Written
			}
			if Same(a, b) != want {
				t.Errorf("Same(%v, %v) = %v", a, b, !want)
			}
		}
	}
	if !Same(api.Toks{}, api.Toks{List: []api.Tok{}}) || !Same(api.Toks{List: []api.Tok{}}, api.Toks{}) {
		t.Error("a nil list is not the same as an empty one")
	}
}

// spare is a copy of a list with three elements more behind it, up to its capacity.
func spare[T any](l []T, more T) []T {
	s := append(slices.Clone(l), more, more, more)
	return s[:len(l):len(s)]
}

// untouched reports whether a list that spare made is as it was.
func untouched[T comparable](s, before []T, more T) bool {
	return slices.Equal(s, before) && slices.Equal(s[len(s):len(s)+3], []T{more, more, more})
}

// wipe overwrites a list up to its capacity.
func wipe[T any](l []T, with T) {
	l = l[:cap(l)]
	for i := range l {
		l[i] = with
	}
}

// P11.1: nothing that was passed to Step is changed, and no result shares memory with it, or with another result.
func TestMemoryOfStep(t *testing.T) {
	strange := api.Tok{Token: 99, State: returned, Written: 99}
	for _, list := range [][]api.Tok{
		nil,
		{{Token: 5, State: offered}},
		{{Token: 5, State: taken}, {Token: 9, State: offered}},
		{{Token: 1, State: offered}, {Token: 5, State: returned, Written: 7}, {Token: 6, State: taken}},
	} {
		for _, e := range someEvents() {
			for _, n := range []int{0, 1, 4, 5, 6, 7, 9, 10} {
				e.Token = n
				x := api.Toks{List: spare(list, strange)}
				checkStep(t, x, e)
				y, _ := Step(x, e)
				z, _ := Step(x, e)
				want := slices.Clone(z.List)
				wipe(y.List, strange)
				if !untouched(x.List, list, strange) || !slices.Equal(z.List, want) {
					t.Fatalf("Step(%v, %v) shares memory", list, e)
				}
			}
		}
	}
}

// P11.1: nothing that was passed to Run is changed, and no result shares memory with another.
func TestMemoryOfRun(t *testing.T) {
	strange := api.TokEv{Kind: reclaim, Token: 99, Written: 99}
	l := []api.TokEv{{Kind: offer, Token: 8}, {Kind: offer, Token: 3}, {Kind: take, Token: 8}, {Kind: offer, Token: 5}, {Kind: offer, Token: 3}}
	for n := range len(l) + 1 {
		s := spare(l[:n], strange)
		checkRun(t, s)
		x, _, _ := Run(s)
		y, _, _ := Run(s)
		want := slices.Clone(y.List)
		wipe(x.List, api.Tok{Token: 77})
		if !slices.Equal(y.List, want) || !untouched(s, l[:n], strange) {
			t.Errorf("Run(%v) shares memory", l[:n])
		}
	}
}

// P11.2: nothing that is asked is changed, and what All returns shares no memory.
func TestMemoryOfAsked(t *testing.T) {
	strange := api.Tok{Token: 99, State: taken}
	list := []api.Tok{{Token: 1, State: taken}, {Token: 2, State: offered}, {Token: 4, State: taken}}
	x := api.Toks{List: spare(list, strange)}
	checkAsked(t, x, []int{0, 1, 2, 3, 4, 99})
	a, b := All(x, taken), All(x, taken)
	wipe(a, -1)
	if !slices.Equal(b, []int{1, 4}) || !untouched(x.List, list, strange) || !Same(x, toks(list...)) {
		t.Error(b, x)
	}
}

// P11.3: the events of each token go around, and there are as many reclaims as returns, or one less, each with the number that was returned.
func TestCycle(t *testing.T) {
	r := rand.New(rand.NewSource(113))
	for range 200 {
		var l []api.TokEv
		x := api.Toks{}
		// Events at random, of which only those that are OK happen.
		for range 400 {
			e := api.TokEv{Kind: r.Intn(6), Token: r.Intn(4), Written: uint32(r.Intn(2))}
			if y, wrong := Step(x, e); wrong == ok {
				x, l = y, append(l, e)
			}
		}
		y, n, e := Run(l)
		if n != -1 || e != ok || !Same(x, y) || Check(x) != ok {
			t.Fatalf("Run(%v) = %v, %d, %d, not %v", l, y, n, e, x)
		}
		if len(l) < 20 {
			t.Fatalf("only %d events happened", len(l))
		}
		for n := range 4 {
			checkCycle(t, x, n, l)
		}
	}
}

// checkCycle compares the events of one token with the theorem.
func checkCycle(t *testing.T, x api.Toks, token int, l []api.TokEv) {
	t.Helper()
	var given, got []uint32
	at := 0
	for _, e := range l {
		if e.Token != token {
			continue
		}
		if want := []int{offer, take, back, reclaim}[at]; e.Kind != want {
			t.Fatalf("event %d of token %d, want %d, in %v", e.Kind, token, want, l)
		}
		at = (at + 1) % 4
		switch e.Kind {
		case back:
			given = append(given, e.Written)
		case reclaim:
			got = append(got, e.Written)
		}
	}
	if State(x, token) != at {
		t.Errorf("token %d is in state %d, want %d", token, State(x, token), at)
	}
	if less := len(given) - len(got); less < 0 || less > 1 || !slices.Equal(got, given[:len(got)]) {
		t.Errorf("token %d was returned with %v, reclaimed with %v", token, given, got)
	}
}
