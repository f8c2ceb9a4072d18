package tests

import (
	"math"
	"slices"
	"testing"

	"loop.example/g00159/impl"
)

// Tests of promise 8: what the calls of chapter 8 tell of wrong arguments, and of two faults the first.

// asked is what is handed in to the calls of chapter 8.
type asked struct {
	n              impl.Net
	env            []int
	down           []bool
	routes         []impl.Route
	vias           []int
	router, rounds int
}

// codes are those of Candidates, RoutesOf, IsStable, StableStates and Settle.
type codes [5]int

func rightAsked(t *testing.T) asked {
	t.Helper()
	n := netOf(t, rowNet+"external b\nexternal d\nimport c from b mark\n")
	marked := impl.Route{Via: 1, Pref: 100, Length: 6, Mark: true}
	return asked{n: n, env: []int{1, 2}, down: make([]bool, 3), routes: []impl.Route{self, by(0, 1), marked, out(true)}, vias: []int{-2, 0, 1, -1}, router: 1, rounds: 9}
}

// checkCodes asks all calls, and looks for zero answers where there is a code.
func checkCodes(t *testing.T, who string, a asked, want codes) {
	t.Helper()
	var got codes
	list, code := impl.Candidates(a.n, a.router, a.env, a.down, a.routes)
	had, hadCode := impl.RoutesOf(a.n, a.env, a.down, a.vias)
	yes, yesCode := impl.IsStable(a.n, a.env, a.down, a.routes)
	states, statesCode := impl.StableStates(a.n, a.env, a.down)
	settled, settledCode := impl.Settle(a.n, a.env, a.down, a.rounds)
	got = codes{code, hadCode, yesCode, statesCode, settledCode}
	if got != want {
		t.Fatalf("%s: codes %v, not %v: %s", who, got, want, brief(a))
	}
	if code != 0 && len(list) != 0 || hadCode != 0 && len(had) != 0 || yesCode != 0 && yes || statesCode != 0 && len(states) != 0 || settledCode != 0 && len(settled) != 0 {
		t.Fatalf("%s: an answer beside a code: %v %v %v %v %v, codes %v", who, list, had, yes, states, settled, got)
	}
}

// all of a code, and a code of those calls alone that take routes.
func ofAll(code int) codes    { return codes{code, code, code, code, code} }
func ofRoutes(code int) codes { return codes{0: code, 2: code} }
func ofVias(code int) codes   { return codes{1: code} }
func ofRouter(code int) codes { return codes{0: code} }
func ofRounds(code int) codes { return codes{4: code} }

// spoiler is a fault: ranks tell which is told first, and no two of one place go together.
type spoiler struct {
	name        string
	place, rank int
	codes       codes
	spoil       func(a *asked)
}

const (
	atNet = iota
	atEnv
	atDown
	atRoutes
	atVias
	atRouter
	atRounds
)

const (
	rankLong = iota
	rankNet
	rankScene
	rankRoutes
	rankOwn
)

func longSpoilers() []spoiler {
	long := impl.MaxList + 1
	return []spoiler{
		{"announcements beyond MaxList", atEnv, rankLong, ofAll(impl.ErrLong), func(a *asked) { a.env = make([]int, long) }},
		{"flags beyond MaxList", atDown, rankLong, ofAll(impl.ErrLong), func(a *asked) { a.down = make([]bool, long) }},
		{"routes beyond MaxList", atRoutes, rankLong, ofRoutes(impl.ErrLong), func(a *asked) { a.routes = slices.Repeat([]impl.Route{none}, long) }},
		{"vias beyond MaxList", atVias, rankLong, ofVias(impl.ErrLong), func(a *asked) { a.vias = repeated(-3, long) }},
		{"announcements without number", atEnv, rankLong, ofAll(impl.ErrLong), func(a *asked) { a.env = repeated(-1, 100000) }},
	}
}

func netSpoilers() []spoiler {
	bad := ofAll(impl.ErrBad)
	return []spoiler{
		{"a cost of 0", atNet, rankNet, bad, func(a *asked) { a.n.Links[1].Cost = 0 }},
		{"a name that is none", atNet, rankNet, bad, func(a *asked) { a.n.Routers[2] = "9" }},
		{"a wrong import", atNet, rankNet, bad, func(a *asked) { a.n.Imports[0].N = 1 }},
		{"a wrong filter", atNet, rankNet, bad, func(a *asked) { a.n.Filters = []impl.Filter{{At: 0, To: 3}} }},
		{"externals that do not rise", atNet, rankNet, bad, func(a *asked) { a.n.Externals = []int{3, 1} }},
		{"an origin that is no router", atNet, rankNet, bad, func(a *asked) { a.n.Origins = []int{4} }},
		{"no network", atNet, rankNet, bad, func(a *asked) { a.n = impl.Net{} }},
	}
}

func sceneSpoilers() []spoiler {
	out := ofAll(impl.ErrRange)
	list := []spoiler{
		{"no announcements", atEnv, rankScene, out, func(a *asked) { a.env = nil }},
		{"one announcement", atEnv, rankScene, out, func(a *asked) { a.env = a.env[:1] }},
		{"three announcements", atEnv, rankScene, out, func(a *asked) { a.env = []int{0, 0, 0} }},
		{"an announcement for each router", atEnv, rankScene, out, func(a *asked) { a.env = make([]int, 4) }},
		{"MaxList announcements", atEnv, rankScene, out, func(a *asked) { a.env = make([]int, impl.MaxList) }},
		{"no flags", atDown, rankScene, out, func(a *asked) { a.down = nil }},
		{"two flags", atDown, rankScene, out, func(a *asked) { a.down = a.down[:2] }},
		{"four flags", atDown, rankScene, out, func(a *asked) { a.down = make([]bool, 4) }},
		{"MaxList flags", atDown, rankScene, out, func(a *asked) { a.down = make([]bool, impl.MaxList) }},
	}
	for _, number := range append([]int{3}, oddly...) {
		list = append(list,
			spoiler{"a wrong announcement", atEnv, rankScene, out, func(a *asked) { a.env = []int{number, 0} }},
			spoiler{"a wrong announcement behind another", atEnv, rankScene, out, func(a *asked) { a.env = []int{2, number} }})
	}
	return list
}

func routeSpoilers() []spoiler {
	bad := ofRoutes(impl.ErrBad)
	list := []spoiler{
		{"no routes", atRoutes, rankRoutes, bad, func(a *asked) { a.routes = nil }},
		{"a route too few", atRoutes, rankRoutes, bad, func(a *asked) { a.routes = a.routes[:3] }},
		{"a route too many", atRoutes, rankRoutes, bad, func(a *asked) { a.routes = append(slices.Clone(a.routes), none) }},
		{"MaxList routes", atRoutes, rankRoutes, bad, func(a *asked) { a.routes = slices.Repeat([]impl.Route{none}, impl.MaxList) }},
	}
	with := func(router int, route impl.Route) {
		list = append(list, spoiler{"a wrong route", atRoutes, rankRoutes, bad, func(a *asked) {
			a.routes = slices.Clone(a.routes)
			a.routes[router] = route
		}})
	}
	// In a row, no link joins a router to itself, to one beyond the next, or to none.
	for _, pair := range [][2]int{{0, 0}, {0, 2}, {0, 3}, {1, 1}, {1, 3}, {2, 0}, {2, 2}, {3, 0}, {3, 1}, {3, 3}, {2, 4}, {3, 4}} {
		with(pair[0], by(pair[1], 1))
	}
	for _, route := range []impl.Route{{Via: -3, Pref: 1}, {Via: -3, Pref: -1}, {Via: -3, Pref: 100}, {Via: -3, Length: 1}, {Via: -3, Length: -1}, {Via: -3, Mark: true}, {Via: -3, Pref: 1000, Length: 10000, Mark: true}} {
		with(0, route)
		with(3, route)
	}
	for _, number := range []int{-1, 1001, 10000, math.MaxInt, math.MinInt} {
		with(0, impl.Route{Via: -2, Pref: number})
		with(2, impl.Route{Via: 1, Pref: number})
	}
	for _, number := range []int{-1, 10001, 1 << 32, math.MaxInt, math.MinInt} {
		with(0, impl.Route{Via: -1, Pref: 100, Length: number})
		with(3, impl.Route{Via: 2, Pref: 100, Length: number})
	}
	for _, number := range []int{-4, -5, 5, 1 << 32, 1<<32 + 1, -1 << 32, math.MaxInt, math.MinInt} {
		with(1, by(number, 1))
		with(3, by(number, 1))
	}
	return list
}

func ownSpoilers() []spoiler {
	vias, router, rounds := ofVias(impl.ErrRange), ofRouter(impl.ErrRange), ofRounds(impl.ErrRange)
	list := []spoiler{
		{"no vias", atVias, rankOwn, vias, func(a *asked) { a.vias = nil }},
		{"a via too few", atVias, rankOwn, vias, func(a *asked) { a.vias = a.vias[:3] }},
		{"a via too many", atVias, rankOwn, vias, func(a *asked) { a.vias = []int{-2, 0, 1, -1, -3} }},
		{"MaxList vias", atVias, rankOwn, vias, func(a *asked) { a.vias = repeated(-3, impl.MaxList) }},
		{"a via out of bounds ahead of one that cannot be had", atVias, rankOwn, vias, func(a *asked) { a.vias = []int{-4, 1, 0, 0} }},
		{"a via out of bounds behind some that go round", atVias, rankOwn, vias, func(a *asked) { a.vias = []int{1, 0, 2, 4} }},
	}
	for _, number := range []int{-4, -5, 4, 5, 1 << 32, -1 << 32, math.MaxInt, math.MinInt} {
		list = append(list,
			spoiler{"a via that there is not", atVias, rankOwn, vias, func(a *asked) { a.vias = []int{number, 0, 1, -1} }},
			spoiler{"a last via that there is not", atVias, rankOwn, vias, func(a *asked) { a.vias = []int{-2, 0, 1, number} }})
	}
	for _, number := range append([]int{4, 5}, oddly...) {
		list = append(list, spoiler{"a router that there is not", atRouter, rankOwn, router, func(a *asked) { a.router = number }})
	}
	for _, number := range append([]int{101, 102}, oddly...) {
		list = append(list, spoiler{"wrong rounds", atRounds, rankOwn, rounds, func(a *asked) { a.rounds = number }})
	}
	return list
}

func allSpoilers() []spoiler {
	return slices.Concat(longSpoilers(), netSpoilers(), sceneSpoilers(), routeSpoilers(), ownSpoilers())
}

// copyOfAsked is so deep that a spoiler changes nothing else.
func copyOfAsked(a asked) asked {
	a.n = copyOfNet(a.n)
	a.env, a.down, a.routes, a.vias = slices.Clone(a.env), slices.Clone(a.down), slices.Clone(a.routes), slices.Clone(a.vias)
	return a
}

func TestRouteFaults(t *testing.T) {
	right := rightAsked(t)
	checkCodes(t, "nothing wrong", right, codes{})
	for _, s := range allSpoilers() {
		a := copyOfAsked(right)
		s.spoil(&a)
		checkCodes(t, s.name, a, s.codes)
	}
}

func TestWhichRouteFault(t *testing.T) {
	right, spoilers := rightAsked(t), allSpoilers()
	for _, s := range spoilers {
		for _, other := range spoilers {
			if s.place == other.place || s.rank > other.rank {
				continue
			}
			a, want := copyOfAsked(right), s.codes
			// A wrong network goes first, for it may be put in the place of the right one.
			if other.place == atNet {
				other.spoil(&a)
				s.spoil(&a)
			} else {
				s.spoil(&a)
				other.spoil(&a)
			}
			for i, code := range want {
				if code == 0 {
					want[i] = other.codes[i]
				}
			}
			checkCodes(t, s.name+" and "+other.name, a, want)
		}
	}
}

// TestBoundsAreRight has all that is just within its bounds.
func TestBoundsAreRight(t *testing.T) {
	right := rightAsked(t)
	for _, row := range []struct {
		name  string
		spoil func(a *asked)
		want  codes
	}{
		{"announcements 0", func(a *asked) { a.env = []int{0, 0} }, ofVias(impl.ErrNone)},
		{"announcements 2", func(a *asked) { a.env = []int{2, 2} }, codes{}},
		{"all links down", func(a *asked) { a.down = []bool{true, true, true} }, ofVias(impl.ErrNone)},
		{"the first router", func(a *asked) { a.router = 0 }, codes{}},
		{"the last router", func(a *asked) { a.router = 3 }, codes{}},
		{"rounds 0", func(a *asked) { a.rounds = 0 }, ofRounds(impl.ErrState)},
		{"rounds 100", func(a *asked) { a.rounds = 100 }, codes{}},
		{"vias at their bounds", func(a *asked) { a.vias = []int{-3, -3, 3, -1} }, codes{}},
		{"vias of themselves", func(a *asked) { a.vias = []int{-3, -3, -3, 3} }, ofVias(impl.ErrNone)},
		{"no routes in all", func(a *asked) { a.routes = []impl.Route{none, none, none, none} }, codes{}},
		{"the least routes", func(a *asked) { a.routes = []impl.Route{{Via: -2}, {Via: -1}, {Via: 1}, {Via: 2}} }, codes{}},
		{"the greatest routes", func(a *asked) {
			a.routes = slices.Repeat([]impl.Route{{Via: -2, Pref: 1000, Length: 10000, Mark: true}}, 4)
		}, codes{}},
		{"neighbours either way", func(a *asked) { a.routes = []impl.Route{by(1, 1), by(2, 1), by(3, 1), by(2, 1)} }, codes{}},
		{"by links that are down", func(a *asked) { a.down, a.vias = []bool{true, true, true}, repeated(-3, 4) }, codes{}},
	} {
		a := copyOfAsked(right)
		row.spoil(&a)
		checkCodes(t, row.name, a, row.want)
	}
}

// slowCodes says which code is told first, one sentence behind the other. It needs to know what can be had, and what comes to rest.
func slowCodes(a asked) codes {
	var want codes
	tell := func(of codes) {
		for i, code := range of {
			if want[i] == 0 {
				want[i] = code
			}
		}
	}
	if len(a.env) > 4096 || len(a.down) > 4096 {
		tell(ofAll(impl.ErrLong))
	}
	if len(a.routes) > 4096 {
		tell(ofRoutes(impl.ErrLong))
	}
	if len(a.vias) > 4096 {
		tell(ofVias(impl.ErrLong))
	}
	if !slowNetOK(a.n) {
		tell(ofAll(impl.ErrBad))
		return want
	}
	last := len(a.n.Routers) - 1
	if len(a.env) != len(a.n.Externals) || len(a.down) != len(a.n.Links) || slices.ContainsFunc(a.env, func(number int) bool { return !between(number, 0, 2) }) {
		tell(ofAll(impl.ErrRange))
		return want
	}
	wrong := len(a.routes) != last+1
	for router, route := range a.routes {
		up := make([]bool, len(a.n.Links))
		joined := between(route.Via, -3, -1) || between(route.Via, 0, last) && slowCost(a.n, router, route.Via, up) > 0
		wrong = wrong || !joined || !between(route.Pref, 0, 1000) || !between(route.Length, 0, 10000) || route.Via == -3 && route != none
	}
	if wrong {
		tell(ofRoutes(impl.ErrBad))
	}
	if !between(a.router, 0, last) {
		tell(ofRouter(impl.ErrRange))
	}
	if len(a.vias) != last+1 || slices.ContainsFunc(a.vias, func(via int) bool { return !between(via, -3, last) }) {
		tell(ofVias(impl.ErrRange))
	} else if slowRoutesOf(a.n, a.env, a.down, a.vias) == nil {
		tell(ofVias(impl.ErrNone))
	}
	if !between(a.rounds, 0, 100) {
		tell(ofRounds(impl.ErrRange))
	} else if slowSettled(a) == nil {
		tell(ofRounds(impl.ErrState))
	}
	return want
}

func slowSettled(a asked) []impl.Route {
	routes := slices.Repeat([]impl.Route{none}, len(a.n.Routers))
	for range a.rounds {
		routes = slowChosen(a.n, a.env, a.down, routes)
	}
	if !slowStable(a.n, a.env, a.down, routes) {
		return nil
	}
	return routes
}
