package tests

import (
	"fmt"
	"math/rand"
	"slices"
	"strings"
	"sync"
	"testing"

	"loop.example/g00159/impl"
)

// Tests of promise 1, of routes: arguments stay, nothing panics, answers are new memory, nothing hangs on earlier calls.

// someAsked is right, but for Vias that mostly cannot be had.
func someAsked(r *rand.Rand) asked {
	n := nearNet(r)
	if r.Intn(3) == 0 {
		n = quarrelNet(r)
	}
	a := asked{n: n, env: someEnv(r, n), down: someDown(r, n), routes: someRoutes(r, n), router: r.Intn(len(n.Routers)), rounds: r.Intn(12)}
	for range n.Routers {
		a.vias = append(a.vias, r.Intn(len(n.Routers)+3)-3)
	}
	if states, _ := impl.StableStates(n, a.env, a.down); len(states) > 0 && r.Intn(2) == 0 {
		a.routes, a.vias = states[0], viasOf(states[0])
	}
	return a
}

// stirAsked changes some of what is asked, mostly to something wrong.
func stirAsked(r *rand.Rand, a asked) asked {
	a = copyOfAsked(a)
	place := func(count int) int { return r.Intn(max(count, 1)) }
	switch kind := r.Intn(12); {
	case kind == 0:
		a.n = spoilt(r, a.n)
	case kind == 1:
		a.n = oddNet(r)
	case kind == 2 && len(a.env) > 0:
		a.env[place(len(a.env))] = oddNumber(r)
	case kind == 3:
		a.env = make([]int, r.Intn(4))
	case kind == 4:
		a.down = make([]bool, r.Intn(8))
	case kind == 5:
		a.router = oddNumber(r)
	case kind == 6:
		a.rounds = oddNumber(r)
	case kind == 7:
		a.vias[place(len(a.vias))] = oddNumber(r)
	case kind == 8:
		a.vias = make([]int, r.Intn(6))
	case kind == 9:
		a.routes = slices.Repeat([]impl.Route{none}, r.Intn(6))
	default:
		route := &a.routes[place(len(a.routes))]
		numbers := []*int{&route.Via, &route.Pref, &route.Length}
		*numbers[r.Intn(3)] = oddNumber(r)
		route.Mark = r.Intn(2) == 0
	}
	return a
}

func TestRoutesNeverPanic(t *testing.T) {
	r := chance()
	seen := map[int]int{}
	for range 40000 {
		a := someAsked(r)
		for range r.Intn(3) {
			if len(a.routes) > 0 && len(a.vias) > 0 && len(a.n.Routers) > 0 {
				a = stirAsked(r, a)
			}
		}
		want := slowCodes(a)
		checkCodes(t, "anything", a, want)
		for _, code := range want {
			seen[code]++
		}
		best, code := impl.BestRoute(a.routes)
		if (code == 0) != (len(a.routes) > 0) || code == 0 && best != slowBest(a.routes) {
			t.Fatalf("BestRoute(%v) = %v, %d", a.routes, best, code)
		}
	}
	for _, code := range []int{0, impl.ErrBad, impl.ErrRange, impl.ErrNone, impl.ErrState} {
		if seen[code] < 1000 {
			t.Errorf("code %d was met %d times: the test tells little", code, seen[code])
		}
	}
}

// routeCalls writes down all that is answered.
func routeCalls(a asked) string {
	var b strings.Builder
	list, code := impl.Candidates(a.n, a.router, a.env, a.down, a.routes)
	fmt.Fprintln(&b, list, code)
	best, code := impl.BestRoute(list)
	fmt.Fprintln(&b, best, code)
	had, code := impl.RoutesOf(a.n, a.env, a.down, a.vias)
	fmt.Fprintln(&b, had, code)
	yes, code := impl.IsStable(a.n, a.env, a.down, a.routes)
	fmt.Fprintln(&b, yes, code)
	states, code := impl.StableStates(a.n, a.env, a.down)
	fmt.Fprintln(&b, states, code)
	settled, code := impl.Settle(a.n, a.env, a.down, a.rounds)
	fmt.Fprintln(&b, settled, code)
	return b.String()
}

func sameAsked(a, b asked) bool {
	return sameNet(a.n, b.n) && slices.Equal(a.env, b.env) && slices.Equal(a.down, b.down) && slices.Equal(a.routes, b.routes) && slices.Equal(a.vias, b.vias)
}

func TestRoutesLeaveTheirArguments(t *testing.T) {
	r := chance()
	for i := range 8000 {
		kept := someAsked(r)
		if i%3 == 0 {
			kept = stirAsked(r, kept)
		}
		a := kept
		a.n = impl.Net{
			Routers: roomyOf(kept.n.Routers), Links: roomyOf(kept.n.Links), Origins: roomyOf(kept.n.Origins),
			Externals: roomyOf(kept.n.Externals), Imports: roomyOf(kept.n.Imports), Filters: roomyOf(kept.n.Filters),
		}
		a.env, a.down, a.routes, a.vias = roomyOf(kept.env), roomyOf(kept.down), roomyOf(kept.routes), roomyOf(kept.vias)
		routeCalls(a)
		impl.BestRoute(a.routes)
		if !sameAsked(a, kept) {
			t.Fatalf("a call of chapter 8 changes %v to %v", kept, a)
		}
		if !hasNothingBehind(a.n.Routers) || !hasNothingBehind(a.n.Links) || !hasNothingBehind(a.n.Origins) || !hasNothingBehind(a.n.Externals) || !hasNothingBehind(a.n.Imports) || !hasNothingBehind(a.n.Filters) ||
			!hasNothingBehind(a.env) || !hasNothingBehind(a.down) || !hasNothingBehind(a.routes) || !hasNothingBehind(a.vias) {
			t.Fatal("a call of chapter 8 writes behind the end of an argument")
		}
	}
}

// TestRoutesAreNewMemory writes to one list after the other of what is answered, and looks at the others.
func TestRoutesAreNewMemory(t *testing.T) {
	spoiltRoute := impl.Route{Via: mark}
	r := chance()
	for range 6000 {
		a := someAsked(r)
		kept, want := copyOfAsked(a), routeCalls(a)
		list, _ := impl.Candidates(a.n, a.router, a.env, a.down, a.routes)
		had, _ := impl.RoutesOf(a.n, a.env, a.down, a.vias)
		settled, _ := impl.Settle(a.n, a.env, a.down, a.rounds)
		states, _ := impl.StableStates(a.n, a.env, a.down)
		spoilAll(list, spoiltRoute)
		spoilAll(had, spoiltRoute)
		spoilAll(settled, spoiltRoute)
		for i := range states {
			spoilAll(states[i], spoiltRoute)
			for _, other := range states[i+1:] {
				if slices.Contains(other, spoiltRoute) {
					t.Fatal("two states share memory")
				}
			}
		}
		if !sameAsked(a, kept) {
			t.Fatal("an answer shares memory with an argument")
		}
		if got := routeCalls(a); got != want {
			t.Fatalf("%v was answered %q, then %q", a, want, got)
		}
	}
}

func TestNothingIsKeptOfRoutes(t *testing.T) {
	r := chance()
	var list []asked
	var answers []string
	for i := range 600 {
		a := someAsked(r)
		if i%3 == 0 {
			a = stirAsked(r, a)
		}
		list, answers = append(list, a), append(answers, routeCalls(a))
	}
	for _, i := range r.Perm(len(list)) {
		if got := routeCalls(list[i]); got != answers[i] {
			t.Fatalf("%v was answered %q, then %q", list[i], answers[i], got)
		}
	}
	// The names of routers, and a list at the same place, tell nothing of the network.
	a := rightAsked(t)
	ahead := routeCalls(a)
	a.n.Links[0].Cost = 50
	if routeCalls(a) == ahead {
		t.Error("what was told of a network is told of another")
	}
	a.n.Links[0].Cost = 1
	if routeCalls(a) != ahead {
		t.Error("a network is told of otherwise than ahead")
	}
}

// TestRoutesAtOnce has several ask of the same arguments at once.
func TestRoutesAtOnce(t *testing.T) {
	r := chance()
	for range 200 {
		a := someAsked(r)
		want := routeCalls(a)
		var got [4]string
		var all sync.WaitGroup
		for i := range got {
			all.Go(func() { got[i] = routeCalls(a) })
		}
		all.Wait()
		for _, one := range got {
			if one != want {
				t.Fatalf("%v was answered %q, and at once with others %q", a, want, one)
			}
		}
	}
}

func TestEmptyIsNilInRoutes(t *testing.T) {
	a := asked{n: impl.Net{Routers: []string{"a", "b"}}, routes: []impl.Route{none, none}, vias: []int{-3, -3}, rounds: 3}
	b := copyOfAsked(a)
	b.n.Links, b.n.Origins, b.n.Externals, b.n.Imports, b.n.Filters = []impl.Link{}, []int{}, []int{}, []impl.Import{}, []impl.Filter{}
	b.env, b.down = []int{}, []bool{}
	if routeCalls(a) != routeCalls(b) {
		t.Error("empty lists and nil are answered otherwise")
	}
	a.routes, a.vias = nil, nil
	b.routes, b.vias = []impl.Route{}, []int{}
	if routeCalls(a) != routeCalls(b) {
		t.Error("no routes and nil are answered otherwise")
	}
}
