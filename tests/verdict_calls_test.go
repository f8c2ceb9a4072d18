package tests

import (
	"fmt"
	"math/rand"
	"slices"
	"strings"
	"sync"
	"testing"

	"loop.example/g00159/impl"
)

// Tests of promise 1, of verdicts: arguments stay, nothing panics, answers are new memory, nothing hangs on earlier calls.

// someInquiry is right, but that a link may be down by which a router goes.
func someInquiry(r *rand.Rand) inquiry {
	n := anyNet(r)
	q := inquiry{n: n, down: fewDown(r, n), routes: someRoutes(r, n), from: r.Intn(len(n.Routers)), port: r.Intn(16), p: someProperty(r, n), k: r.Intn(2)}
	if states, _ := impl.StableStates(n, someEnv(r, n), q.down); len(states) > 0 && r.Intn(2) == 0 {
		q.routes = states[0]
	}
	q.v = someVerdict(r, n, q.p)
	return q
}

// stirInquiry changes some of what is asked, mostly to something wrong.
func stirInquiry(r *rand.Rand, q inquiry) inquiry {
	q = copyOfInquiry(q)
	numbers := []*int{&q.from, &q.port, &q.p.Kind, &q.p.From, &q.p.Port, &q.p.Way, &q.k, &q.v.Port, &q.v.States}
	for _, list := range [][]int{q.v.Env, q.v.Vias} {
		for i := range list {
			numbers = append(numbers, &list[i])
		}
	}
	for i := range q.routes {
		numbers = append(numbers, &q.routes[i].Via, &q.routes[i].Pref, &q.routes[i].Length)
	}
	switch kind := r.Intn(10); {
	case kind == 0 && len(q.n.Routers) > 0:
		q.n = spoilt(r, q.n)
	case kind == 1:
		q.n = oddNet(r)
	case kind == 2:
		q.down = make([]bool, r.Intn(8))
	case kind == 3:
		q.routes = slices.Repeat([]impl.Route{none}, r.Intn(6))
	case kind == 4:
		q.v.Holds = true
	case kind == 5:
		q.v.Env, q.v.Vias = make([]int, r.Intn(4)), make([]int, r.Intn(6))
	case kind == 6:
		q.v.Down = make([]bool, r.Intn(8))
	default:
		*numbers[r.Intn(len(numbers))] = oddNumber(r)
	}
	return q
}

func between(number, low, high int) bool {
	return number >= low && number <= high
}

// slowForwardCode, slowVerifyCode and slowReplayCode say which code is told first, one sentence behind the other.
func slowForwardCode(q inquiry) int {
	if len(q.down) > 4096 || len(q.routes) > 4096 {
		return impl.ErrLong
	}
	if !slowNetOK(q.n) || len(q.routes) != len(q.n.Routers) {
		return impl.ErrBad
	}
	last := len(q.n.Routers) - 1
	for router, route := range q.routes {
		joined := between(route.Via, -3, -1) || between(route.Via, 0, last) && slowCost(q.n, router, route.Via, make([]bool, len(q.n.Links))) > 0
		if !joined || !between(route.Pref, 0, 1000) || !between(route.Length, 0, 10000) || route.Via == -3 && route != none {
			return impl.ErrBad
		}
	}
	if len(q.down) != len(q.n.Links) || !between(q.from, 0, last) || !between(q.port, 0, 15) {
		return impl.ErrRange
	}
	if slowDown(q.n, q.down, q.routes) {
		return impl.ErrState
	}
	return 0
}

func slowVerifyCode(q inquiry) int {
	if !slowProperty(q.n, q.p) {
		return impl.ErrBad
	}
	if !between(q.k, 0, 2) {
		return impl.ErrRange
	}
	return 0
}

func slowReplayCode(q inquiry) int {
	if !slowNetOK(q.n) {
		return impl.ErrBad
	}
	isNone := func(number int) bool { return !between(number, 0, 2) }
	if len(q.v.Env) != len(q.n.Externals) || len(q.v.Down) != len(q.n.Links) || slices.ContainsFunc(q.v.Env, isNone) {
		return impl.ErrRange
	}
	if !slowProperty(q.n, q.p) || q.v.Holds {
		return impl.ErrBad
	}
	isNone = func(via int) bool { return !between(via, -3, len(q.n.Routers)-1) }
	if !between(q.k, 0, 2) || len(q.v.Vias) != len(q.n.Routers) || slices.ContainsFunc(q.v.Vias, isNone) {
		return impl.ErrRange
	}
	if !between(q.v.Port, 0, 15) || q.p.Port >= 0 && q.p.Port != q.v.Port {
		return impl.ErrRange
	}
	return 0
}

func TestVerdictsNeverPanic(t *testing.T) {
	r := chance()
	seen := map[string]int{}
	for range 12000 {
		q := someInquiry(r)
		for range r.Intn(3) {
			q = stirInquiry(r, q)
		}
		for _, of := range []struct {
			name string
			call func(q inquiry) (int, bool)
			want int
		}{{"Forward", forwardCode, slowForwardCode(q)}, {"Verify", verifyCode, slowVerifyCode(q)}, {"Replay", replayCode, slowReplayCode(q)}} {
			code, isZero := of.call(q)
			if code != of.want || !isZero {
				t.Fatalf("%s of %v: code %d, not %d, all else zero: %v", of.name, q, code, of.want, isZero)
			}
			seen[fmt.Sprint(of.name, code)]++
		}
		impl.Satisfied(q.n, q.p, impl.Walk{Outcome: q.from, Path: q.v.Vias})
	}
	for _, name := range []string{"Forward0", "Forward1", "Forward5", "Forward8", "Verify0", "Verify1", "Verify5", "Replay0", "Replay1", "Replay5"} {
		if seen[name] < 50 {
			t.Errorf("%v: the test tells little", seen)
			return
		}
	}
}

// verdictCalls writes down all that is answered.
func verdictCalls(q inquiry) string {
	var b strings.Builder
	w, code := impl.Forward(q.n, q.down, q.routes, q.from, q.port)
	fmt.Fprintln(&b, w, code)
	fmt.Fprintln(&b, impl.PropertyOK(q.n, q.p))
	yes, code := impl.Satisfied(q.n, q.p, w)
	fmt.Fprintln(&b, yes, code)
	v, code := impl.Verify(q.n, q.p, q.k)
	fmt.Fprintln(&b, v, code)
	yes, code = impl.Replay(q.n, q.p, q.k, q.v)
	fmt.Fprintln(&b, yes, code)
	yes, code = impl.Replay(q.n, q.p, q.k, v)
	fmt.Fprintln(&b, yes, code)
	return b.String()
}

func sameInquiry(a, b inquiry) bool {
	return sameNet(a.n, b.n) && slices.Equal(a.down, b.down) && slices.Equal(a.routes, b.routes) && sameVerdict(a.v, b.v)
}

func TestVerdictsLeaveTheirArguments(t *testing.T) {
	r := chance()
	for i := range 3000 {
		kept := someInquiry(r)
		if i%3 == 0 {
			kept = stirInquiry(r, kept)
		}
		q := kept
		q.n = impl.Net{
			Routers: roomyOf(kept.n.Routers), Links: roomyOf(kept.n.Links), Origins: roomyOf(kept.n.Origins),
			Externals: roomyOf(kept.n.Externals), Imports: roomyOf(kept.n.Imports), Filters: roomyOf(kept.n.Filters),
		}
		q.down, q.routes = roomyOf(kept.down), roomyOf(kept.routes)
		q.v.Down, q.v.Env, q.v.Vias = roomyOf(kept.v.Down), roomyOf(kept.v.Env), roomyOf(kept.v.Vias)
		verdictCalls(q)
		path := roomyOf(kept.v.Vias)
		impl.Satisfied(q.n, q.p, impl.Walk{Outcome: 1, Path: path})
		if !sameInquiry(q, kept) || !slices.Equal(path, kept.v.Vias) {
			t.Fatalf("a call of chapter 9 changes %v to %v", kept, q)
		}
		if !hasNothingBehind(q.n.Routers) || !hasNothingBehind(q.n.Links) || !hasNothingBehind(q.n.Origins) || !hasNothingBehind(q.n.Externals) || !hasNothingBehind(q.n.Imports) || !hasNothingBehind(q.n.Filters) ||
			!hasNothingBehind(q.down) || !hasNothingBehind(q.routes) || !hasNothingBehind(q.v.Down) || !hasNothingBehind(q.v.Env) || !hasNothingBehind(q.v.Vias) || !hasNothingBehind(path) {
			t.Fatal("a call of chapter 9 writes behind the end of an argument")
		}
	}
}

// TestVerdictsAreNewMemory writes to one list after the other of what is answered, and looks at the others.
func TestVerdictsAreNewMemory(t *testing.T) {
	r := chance()
	for range 1500 {
		q := someInquiry(r)
		kept, want := copyOfInquiry(q), verdictCalls(q)
		w, _ := impl.Forward(q.n, q.down, q.routes, q.from, q.port)
		v, _ := impl.Verify(q.n, q.p, q.k)
		vias := slices.Clone(v.Vias)
		spoilAll(w.Path, mark)
		spoilAll(v.Down, true)
		spoilAll(v.Env, mark)
		if !slices.Equal(v.Vias, vias) {
			t.Fatal("the Env and the Vias of a verdict share memory")
		}
		spoilAll(v.Vias, mark+1)
		if slices.Contains(v.Env, mark+1) {
			t.Fatal("the Vias and the Env of a verdict share memory")
		}
		if !sameInquiry(q, kept) {
			t.Fatal("an answer shares memory with an argument")
		}
		if got := verdictCalls(q); got != want {
			t.Fatalf("%v was answered %q, then %q", q, want, got)
		}
	}
}

func TestNothingIsKeptOfVerdicts(t *testing.T) {
	r := chance()
	var list []inquiry
	var answers []string
	for i := range 500 {
		q := someInquiry(r)
		if i%3 == 0 {
			q = stirInquiry(r, q)
		}
		list, answers = append(list, q), append(answers, verdictCalls(q))
	}
	for _, i := range r.Perm(len(list)) {
		if got := verdictCalls(list[i]); got != answers[i] {
			t.Fatalf("%v was answered %q, then %q", list[i], answers[i], got)
		}
	}
	// States are counted anew in each call, and a network is looked at anew, be its lists at the same place or not.
	n, p := netOf(t, detourNet), impl.Property{Kind: impl.PrReach, From: 0, Port: 5}
	for range 3 {
		checkVerify(t, n, p, 1, holds(12))
	}
	n.Filters[0].High = 5
	checkVerify(t, n, p, 1, violated(1, "000", []int{0}, []int{1, 2, -2}, 5))
	n.Filters[0].High = 4
	checkVerify(t, n, p, 1, holds(12))
}

// TestVerdictsAtOnce has several ask of the same arguments at once.
func TestVerdictsAtOnce(t *testing.T) {
	r := chance()
	for range 200 {
		q := someInquiry(r)
		want := verdictCalls(q)
		var got [4]string
		var all sync.WaitGroup
		for i := range got {
			all.Go(func() { got[i] = verdictCalls(q) })
		}
		all.Wait()
		for _, one := range got {
			if one != want {
				t.Fatalf("%v was answered %q, and at once with others %q", q, want, one)
			}
		}
	}
}

func TestEmptyIsNilInVerdicts(t *testing.T) {
	q := inquiry{n: impl.Net{Routers: []string{"a", "b"}}, routes: []impl.Route{none, none}, p: impl.Property{Kind: impl.PrReach, Port: -1}, v: impl.Verdict{Vias: []int{-3, -3}}}
	other := copyOfInquiry(q)
	other.n.Links, other.n.Origins, other.n.Externals, other.n.Imports, other.n.Filters = []impl.Link{}, []int{}, []int{}, []impl.Import{}, []impl.Filter{}
	other.down, other.v.Down, other.v.Env = []bool{}, []bool{}, []int{}
	if verdictCalls(q) != verdictCalls(other) {
		t.Error("empty lists and nil are answered otherwise")
	}
	checkReplay(t, q.n, q.p, 0, q.v, true)
	checkReplay(t, other.n, other.p, 0, other.v, true)
	q.routes, q.v.Vias = nil, nil
	other.routes, other.v.Vias = []impl.Route{}, []int{}
	if verdictCalls(q) != verdictCalls(other) {
		t.Error("no routes and nil are answered otherwise")
	}
}
