package tests

import (
	"math/rand"
	"slices"
	"testing"

	"loop.example/g00159/impl"
)

// Tests of promise 8: the routes of Vias, which are stable, all that are, and what routers settle on.

const (
	rowNet    = "router a\nrouter b\nrouter c\nrouter d\nlink a b\nlink c b cost 5\nlink d c cost 10\norigin a\n"
	eitherNet = "router a\nrouter b\nrouter c\nlink a b\nlink a c\nlink b c\norigin a\nimport b from c pref 150\nimport c from b pref 150\n"

	// Of each of the three that stand around a, the best is to go by the next one, if that one goes straight to a.
	roundNet = "router a\nrouter b\nrouter c\nrouter d\nlink a b\nlink a c\nlink a d\nlink b c\nlink c d\nlink d b\norigin a\n" +
		"import b from c if mark deny\nimport b from c pref 150\nimport b from c mark\nimport c from d if mark deny\nimport c from d pref 150\nimport c from d mark\n" +
		"import d from b if mark deny\nimport d from b pref 150\nimport d from b mark\n"

	// As eitherNet, but c comes to a by d, and so later than b.
	laterNet = "router a\nrouter b\nrouter c\nrouter d\nlink a b\nlink a d\nlink d c\nlink b c\norigin a\nimport b from c pref 150\nimport c from b pref 150\n"
)

// pref is a route of a neighbour with another pref.
func pref(via, pref, length int) impl.Route {
	return impl.Route{Via: via, Pref: pref, Length: length}
}

func viasOf(routes []impl.Route) []int {
	var vias []int
	for _, route := range routes {
		vias = append(vias, route.Via)
	}
	return vias
}

func sameStates(a, b [][]impl.Route) bool {
	return slices.EqualFunc(a, b, func(p, q []impl.Route) bool { return slices.Equal(p, q) })
}

// checkStates holds all calls that speak of stable routes against those that are.
func checkStates(t *testing.T, n impl.Net, env []int, down []bool, want [][]impl.Route) {
	t.Helper()
	if got, code := impl.StableStates(n, env, down); code != 0 || !sameStates(got, want) {
		t.Fatalf("StableStates(%v, %v, %v) = %v, %d, not %v", n, env, down, got, code, want)
	}
	for _, routes := range want {
		checkStable(t, n, env, down, routes, true)
		checkRoutesOf(t, n, env, down, viasOf(routes), routes)
	}
	if got, code := impl.Settle(n, env, down, 100); code == 0 && !slices.ContainsFunc(want, func(routes []impl.Route) bool { return slices.Equal(routes, got) }) || code != 0 && code != impl.ErrState {
		t.Fatalf("Settle(%v, %v, %v) = %v, %d, and stable are %v", n, env, down, got, code, want)
	}
}

func checkStable(t *testing.T, n impl.Net, env []int, down []bool, routes []impl.Route, want bool) {
	t.Helper()
	if got, code := impl.IsStable(n, env, down, routes); code != 0 || got != want {
		t.Fatalf("IsStable(%v, %v, %v, %v) = %v, %d", n, env, down, routes, got, code)
	}
}

// checkRoutesOf holds the routes of Vias against those that are due; there are none if they cannot be had.
func checkRoutesOf(t *testing.T, n impl.Net, env []int, down []bool, vias []int, want []impl.Route) {
	t.Helper()
	code := 0
	if want == nil {
		code = impl.ErrNone
	}
	if got, gotCode := impl.RoutesOf(n, env, down, vias); gotCode != code || !slices.Equal(got, want) {
		t.Fatalf("RoutesOf(%v, %v, %v, %v) = %v, %d, not %v, %d", n, env, down, vias, got, gotCode, want, code)
	}
}

func TestStableStates(t *testing.T) {
	for _, row := range []struct {
		text string
		env  []int
		down []bool
		want [][]impl.Route
	}{
		{rowNet, nil, []bool{false, false, false}, [][]impl.Route{{self, by(0, 1), by(1, 6), by(2, 16)}}},
		{rowNet, nil, []bool{false, true, false}, [][]impl.Route{{self, by(0, 1), none, none}}},
		{rowNet, nil, []bool{true, false, false}, [][]impl.Route{{self, none, none, none}}},
		{rowNet + "origin d\n", nil, []bool{false, false, false}, [][]impl.Route{{self, by(0, 1), by(1, 6), self}}},
		{rowNet + "external d\n", []int{0}, []bool{false, true, false}, [][]impl.Route{{self, by(0, 1), none, none}}},
		{rowNet + "external d\n", []int{1}, []bool{false, true, false}, [][]impl.Route{{self, by(0, 1), by(3, 12), out(false)}}},
		{rowNet + "external c\nimport b from c if mark pref 101\n", []int{1}, []bool{false, false, false}, [][]impl.Route{{self, by(0, 1), out(false), by(2, 12)}}},
		{rowNet + "external c\nimport b from c if mark pref 101\nimport d from c clear\n", []int{2}, []bool{false, false, false},
			[][]impl.Route{{self, {Via: 2, Pref: 101, Length: 7, Mark: true}, out(true), by(2, 12)}}},
		{rowNet + "import c from b deny\n", nil, []bool{false, false, false}, [][]impl.Route{{self, by(0, 1), none, none}}},
		{rowNet + "import c from b mark\nimport d from c if mark deny\n", nil, []bool{false, false, false}, [][]impl.Route{{self, by(0, 1), {Via: 1, Pref: 100, Length: 6, Mark: true}, none}}},
		{rowNet + "external a\n", []int{2}, []bool{true, true, true}, [][]impl.Route{{self, none, none, none}}},
		{eitherNet, nil, []bool{false, false, false}, [][]impl.Route{{self, by(0, 1), pref(1, 150, 2)}, {self, pref(2, 150, 2), by(0, 1)}}},
		{eitherNet, nil, []bool{false, false, true}, [][]impl.Route{{self, by(0, 1), by(0, 1)}}},
		{eitherNet, nil, []bool{true, false, false}, [][]impl.Route{{self, pref(2, 150, 2), by(0, 1)}}},
		{laterNet, nil, make([]bool, 4), [][]impl.Route{{self, by(0, 1), pref(1, 150, 2), by(0, 1)}, {self, pref(2, 150, 3), by(3, 2), by(0, 1)}}},
		{roundNet, nil, make([]bool, 6), nil},
		{roundNet, nil, []bool{false, false, false, true, false, false}, [][]impl.Route{{self, by(0, 1), by(0, 1), {Via: 1, Pref: 150, Length: 2, Mark: true}}}},
		// An origin goes by another, if that is better than itself; 200 is as good, and not shorter.
		{"router a\nrouter b\nlink a b\norigin a\norigin b\nimport a from b pref 201\nimport b from a pref 201\n", nil, []bool{false}, [][]impl.Route{{self, pref(0, 201, 1)}, {pref(1, 201, 1), self}}},
		{"router a\nrouter b\nlink a b\norigin a\norigin b\nimport a from b pref 200\nimport b from a pref 200\n", nil, []bool{false}, [][]impl.Route{{self, self}}},
		// Of as good and as long ones the lesser Via counts: out ahead of all neighbours, these by number.
		{"router a\nrouter b\nrouter c\nrouter d\nlink d b\nlink d c\nlink b a\nlink c a\norigin a\n", nil, make([]bool, 4), [][]impl.Route{{self, by(0, 1), by(0, 1), by(1, 2)}}},
		{"router a\nrouter b\nlink a b cost 2\norigin a\nexternal b\n", []int{1}, []bool{false}, [][]impl.Route{{self, out(false)}}},
		{"router a\nrouter b\nlink a b\norigin a\nexternal b\n", []int{1}, []bool{false}, [][]impl.Route{{self, by(0, 1)}}},
		{"router a\nrouter b\n", nil, nil, [][]impl.Route{{none, none}}},
		{"router a\n", nil, nil, [][]impl.Route{{none}}},
		{"router a\norigin a\n", nil, nil, [][]impl.Route{{self}}},
		{"router a\nexternal a\n", []int{0}, nil, [][]impl.Route{{none}}},
		{"router a\nexternal a\n", []int{1}, nil, [][]impl.Route{{out(false)}}},
		{"router a\nexternal a\n", []int{2}, nil, [][]impl.Route{{out(true)}}},
		{"router a\nexternal a\norigin a\n", []int{2}, nil, [][]impl.Route{{self}}},
	} {
		checkStates(t, netOf(t, row.text), row.env, row.down, row.want)
	}
}

func TestRoutesOf(t *testing.T) {
	n := netOf(t, rowNet+"origin c\nexternal b\nexternal d\nimport b from c if mark deny\nimport b from c if plain pref 0\nimport c from d mark\n")
	up, env := make([]bool, 3), []int{1, 2}
	for _, row := range []struct {
		vias []int
		want []impl.Route
	}{
		{[]int{-3, -3, -3, -3}, []impl.Route{none, none, none, none}},
		{[]int{-2, 0, 1, 2}, []impl.Route{self, by(0, 1), by(1, 6), by(2, 16)}},
		{[]int{1, 2, -2, -1}, []impl.Route{by(1, 6), {Via: 2, Length: 5}, self, out(true)}},
		{[]int{1, -1, 1, 2}, []impl.Route{by(1, 3), out(false), by(1, 7), by(2, 17)}},
		{[]int{-2, -3, 3, -1}, []impl.Route{self, none, {Via: 3, Pref: 100, Length: 12, Mark: true}, out(true)}},
		{[]int{-3, 2, 3, -1}, nil},  // denied
		{[]int{-3, 0, -2, 2}, nil},  // of a router without a route
		{[]int{-3, -3, -3, 2}, nil}, // likewise
		{[]int{1, 0, -2, -1}, nil},  // round
		{[]int{-2, 2, 1, 2}, nil},   // round, and one that comes to them
		{[]int{0, -3, -3, -3}, nil}, // of itself
		{[]int{-2, 1, -2, -1}, nil}, // likewise
		{[]int{-2, -2, -2, 2}, nil}, // no origin
		{[]int{-2, 0, -2, -2}, nil}, // likewise
		{[]int{-1, 0, -2, -1}, nil}, // no external
		{[]int{-2, 0, 0, 2}, nil},   // no link
		{[]int{-2, 3, -2, -1}, nil}, // likewise
	} {
		checkRoutesOf(t, n, env, up, row.vias, row.want)
	}
	checkRoutesOf(t, n, []int{0, 2}, up, []int{-2, -1, -2, -1}, nil)
	checkRoutesOf(t, n, []int{1, 0}, up, []int{-2, -1, -2, -1}, nil)
	checkRoutesOf(t, n, []int{2, 1}, up, []int{-2, -1, -2, -1}, []impl.Route{self, out(true), self, out(false)})
	checkRoutesOf(t, n, env, []bool{false, true, false}, []int{-2, 0, 1, -1}, nil)
	checkRoutesOf(t, n, env, []bool{false, true, false}, []int{-2, 0, -2, 2}, []impl.Route{self, by(0, 1), self, by(2, 10)})
	checkRoutesOf(t, impl.Net{Routers: []string{"a"}}, nil, nil, []int{-3}, []impl.Route{none})
	checkRoutesOf(t, impl.Net{Routers: []string{"a"}}, nil, nil, []int{0}, nil)
}

func TestIsStable(t *testing.T) {
	n := netOf(t, eitherNet)
	up := make([]bool, 3)
	right := []impl.Route{self, by(0, 1), pref(1, 150, 2)}
	checkStable(t, n, nil, up, right, true)
	for _, row := range []struct {
		router int
		route  impl.Route
	}{
		{0, none}, {0, impl.Route{Via: -2, Pref: 201}}, {0, impl.Route{Via: -2, Pref: 200, Length: 1}}, {0, impl.Route{Via: -2, Pref: 200, Mark: true}}, {0, impl.Route{Via: -1, Pref: 200}}, {0, by(1, 2)},
		{1, none}, {1, self}, {1, by(0, 2)}, {1, pref(0, 99, 1)}, {1, impl.Route{Via: 0, Pref: 100, Length: 1, Mark: true}}, {1, pref(2, 150, 2)}, {1, pref(2, 150, 3)},
		{2, none}, {2, by(0, 1)}, {2, by(1, 2)}, {2, pref(1, 150, 3)}, {2, impl.Route{Via: 1, Pref: 150, Length: 2, Mark: true}},
	} {
		routes := slices.Clone(right)
		routes[row.router] = row.route
		checkStable(t, n, nil, up, routes, false)
	}
	// Routes that hang on each other alone go round.
	checkStable(t, n, nil, up, []impl.Route{self, pref(2, 150, 2), pref(1, 150, 2)}, false)
	checkStable(t, n, nil, []bool{true, true, false}, []impl.Route{self, pref(2, 150, 2), pref(1, 150, 3)}, false)
	checkStable(t, n, nil, []bool{true, true, false}, []impl.Route{self, none, none}, true)
	// Going by a link that is down is right, and not stable.
	checkStable(t, n, nil, []bool{true, true, true}, right, false)
}

func checkSettle(t *testing.T, n impl.Net, env []int, down []bool, rounds int, want []impl.Route) {
	t.Helper()
	code := 0
	if want == nil {
		code = impl.ErrState
	}
	if got, gotCode := impl.Settle(n, env, down, rounds); gotCode != code || !slices.Equal(got, want) {
		t.Fatalf("Settle(%v, %v, %v, %d) = %v, %d, not %v, %d", n, env, down, rounds, got, gotCode, want, code)
	}
}

// TestSettle has networks that come to rest in so many rounds, or never.
func TestSettle(t *testing.T) {
	const never = 101
	for _, row := range []struct {
		text string
		env  []int
		down []bool
		need int
		want []impl.Route
	}{
		{rowNet, nil, make([]bool, 3), 4, []impl.Route{self, by(0, 1), by(1, 6), by(2, 16)}},
		{rowNet, nil, []bool{false, false, true}, 3, []impl.Route{self, by(0, 1), by(1, 6), none}},
		{rowNet, nil, []bool{true, false, false}, 1, []impl.Route{self, none, none, none}},
		{rowNet + "origin d\n", nil, make([]bool, 3), 3, []impl.Route{self, by(0, 1), by(1, 6), self}},
		{"router a\nrouter b\nlink a b\n", nil, []bool{false}, 0, []impl.Route{none, none}},
		{"router a\n", nil, nil, 0, []impl.Route{none}},
		{"router a\nexternal a\n", []int{0}, nil, 0, []impl.Route{none}},
		{"router a\nexternal a\n", []int{2}, nil, 1, []impl.Route{out(true)}},
		{"router a\norigin a\n", nil, nil, 1, []impl.Route{self}},
		// It first goes by a, then by the longer way that is better.
		{"router a\nrouter b\nrouter c\nlink a b\nlink b c\nlink a c\norigin a\nimport b from c pref 150\n", nil, make([]bool, 3), 3, []impl.Route{self, pref(2, 150, 2), by(0, 1)}},
		{laterNet, nil, make([]bool, 4), 3, []impl.Route{self, by(0, 1), pref(1, 150, 2), by(0, 1)}},
		{eitherNet, nil, make([]bool, 3), never, nil},
		{roundNet, nil, make([]bool, 6), never, nil},
		{"router a\nrouter b\nlink a b\norigin a\norigin b\nimport a from b pref 201\nimport b from a pref 201\n", nil, []bool{false}, never, nil},
	} {
		n := netOf(t, row.text)
		for rounds := range 101 {
			want := row.want
			if rounds < row.need {
				want = nil
			}
			checkSettle(t, n, row.env, row.down, rounds, want)
		}
	}
}

// slowRouteOf follows the Vias of a router to their end; it answers nothing if that cannot be had.
func slowRouteOf(n impl.Net, env []int, down []bool, vias []int, router, depth int) []impl.Route {
	via := vias[router]
	switch {
	case depth > len(vias):
		return nil
	case via == -3:
		return []impl.Route{none}
	case via < 0:
		return slices.DeleteFunc(slowOwn(n, router, env), func(route impl.Route) bool { return route.Via != via })
	}
	cost, next := slowCost(n, router, via, down), slowRouteOf(n, env, down, vias, via, depth+1)
	if cost == 0 || len(next) == 0 || next[0] == none {
		return nil
	}
	return slowImports(n, router, via, impl.Route{Via: via, Pref: 100, Length: next[0].Length + cost, Mark: next[0].Mark})
}

func slowRoutesOf(n impl.Net, env []int, down []bool, vias []int) []impl.Route {
	var routes []impl.Route
	for router := range vias {
		route := slowRouteOf(n, env, down, vias, router, 1)
		if len(route) == 0 {
			return nil
		}
		routes = append(routes, route...)
	}
	return routes
}

func slowChosen(n impl.Net, env []int, down []bool, routes []impl.Route) []impl.Route {
	var chosen []impl.Route
	for router := range routes {
		chosen = append(chosen, slowBest(slowCandidates(n, router, env, down, routes)))
	}
	return chosen
}

func slowStable(n impl.Net, env []int, down []bool, routes []impl.Route) bool {
	return slices.Equal(slowChosen(n, env, down, routes), routes)
}

// allVias goes through all Vias from -3 to the last router of each, those of router 0 counting most.
func allVias(routers int, do func(vias []int)) {
	vias := slices.Repeat([]int{-3}, routers)
	for at := 0; at >= 0; {
		do(vias)
		at = routers - 1
		for at >= 0 && vias[at] == routers-1 {
			vias[at] = -3
			at--
		}
		if at >= 0 {
			vias[at]++
		}
	}
}

// slowByVias tries all Vias.
func slowByVias(n impl.Net, env []int, down []bool) [][]impl.Route {
	var states [][]impl.Route
	allVias(len(n.Routers), func(vias []int) {
		if routes := slowRoutesOf(n, env, down, vias); routes != nil && slowStable(n, env, down, routes) {
			states = append(states, routes)
		}
	})
	return states
}

// slowAtAll answers all routes that a router could ever have: none, and those of all ways on which no router is twice.
func slowAtAll(n impl.Net, env []int, down []bool, router int, ahead []int) []impl.Route {
	list := slowOwn(n, router, env)
	for other := range n.Routers {
		cost := slowCost(n, router, other, down)
		if cost == 0 || slices.Contains(ahead, other) {
			continue
		}
		for _, route := range slowAtAll(n, env, down, other, append(slices.Clone(ahead), router)) {
			list = append(list, slowImports(n, router, other, impl.Route{Via: other, Pref: 100, Length: route.Length + cost, Mark: route.Mark})...)
		}
	}
	return list
}

// slowByRoutes tries all routes that routers could ever have, with all of the others, whether they fit or not; it tells whether these are few enough.
func slowByRoutes(n impl.Net, env []int, down []bool) ([][]impl.Route, bool) {
	const most = 20000
	combined := [][]impl.Route{nil}
	for router := range n.Routers {
		var more [][]impl.Route
		var tried []impl.Route
		for _, route := range append(slowAtAll(n, env, down, router, nil), none) {
			if slices.Contains(tried, route) {
				continue
			}
			tried = append(tried, route)
			for _, routes := range combined {
				more = append(more, append(slices.Clone(routes), route))
			}
		}
		combined = more
		if len(combined) > most {
			return nil, false
		}
	}
	states := slices.DeleteFunc(combined, func(routes []impl.Route) bool { return !slowStable(n, env, down, routes) })
	slices.SortFunc(states, func(a, b []impl.Route) int { return slices.Compare(viasOf(a), viasOf(b)) })
	return states, true
}

func TestStableStatesByAllVias(t *testing.T) {
	r := chance()
	counts := map[int]int{}
	for range 8000 {
		n := nearNet(r)
		env, down := someEnv(r, n), someDown(r, n)
		want := slowByVias(n, env, down)
		checkStates(t, n, env, down, want)
		counts[len(want)]++
	}
	if counts[1] < 5000 || counts[2] < 20 {
		t.Errorf("so many have so many states: %v: the test tells little", counts)
	}
}

func TestStableStatesByAllRoutes(t *testing.T) {
	r := chance()
	counts := map[int]int{}
	for i := range 4000 {
		n := nearNet(r)
		switch i % 8 {
		case 0, 1:
			n = quarrelNet(r)
		case 2:
			n = ringNet(r)
		}
		env, down := someEnv(r, n), fewDown(r, n)
		want, few := slowByRoutes(n, env, down)
		if !few {
			continue
		}
		checkStates(t, n, env, down, want)
		counts[len(want)]++
	}
	if counts[0] < 5 || counts[1] < 2000 || counts[2] < 100 {
		t.Errorf("so many have so many states: %v: the test tells little", counts)
	}
}

// quarrelNet has one origin, all links, and others that would rather go by one another, so that often nothing is stable, or much.
func quarrelNet(r *rand.Rand) impl.Net {
	n := impl.Net{Routers: []string{"a", "b", "c", "d"}[:3+r.Intn(2)], Origins: []int{0}}
	for a := range n.Routers {
		for b := range a {
			n.Links = append(n.Links, impl.Link{A: b, B: a, Cost: 1 + r.Intn(2)})
		}
	}
	others := len(n.Routers) - 1
	for _, pair := range r.Perm(others * others) {
		at, from := 1+pair/others, 1+pair%others
		if at == from || len(n.Imports) > impl.MaxImports-3 {
			continue
		}
		if r.Intn(4) > 0 {
			n.Imports = append(n.Imports, impl.Import{At: at, From: from, When: impl.WhMark, Do: impl.DoDeny})
		}
		n.Imports = append(n.Imports, impl.Import{At: at, From: from, When: r.Intn(3) / 2, Do: impl.DoPref, N: 100 + 25*r.Intn(5)})
		if do := r.Intn(5); do > 0 {
			n.Imports = append(n.Imports, impl.Import{At: at, From: from, When: max(0, r.Intn(5)-2), Do: []int{impl.DoClear, impl.DoMark, impl.DoMark, impl.DoMark}[do-1]})
		}
	}
	return n
}

// ringNet is roundNet with other costs and prefs, and perhaps with an import less.
func ringNet(r *rand.Rand) impl.Net {
	n, _, _ := impl.ReadNet(roundNet)
	for i := range n.Links {
		n.Links[i].Cost = 1 + r.Intn(3)
	}
	for i := range n.Imports {
		if n.Imports[i].Do == impl.DoPref {
			n.Imports[i].N = 100 + r.Intn(200)
		}
	}
	if r.Intn(2) == 0 {
		n.Imports = slices.Delete(n.Imports, 0, 1+r.Intn(3))
	}
	return n
}

// fewDown has mostly no link down.
func fewDown(r *rand.Rand, n impl.Net) []bool {
	return valuesOf(r.Intn(64)&r.Intn(64)&r.Intn(64)&r.Intn(64), len(n.Links))
}

func TestStableStatesOfQuarrels(t *testing.T) {
	r := chance()
	counts := map[int]int{}
	for i := range 4000 {
		n := quarrelNet(r)
		if i%4 == 0 {
			n = ringNet(r)
		}
		down := fewDown(r, n)
		want := slowByVias(n, nil, down)
		checkStates(t, n, nil, down, want)
		counts[len(want)]++
	}
	if counts[0] < 20 || counts[1] < 1000 || counts[2] < 200 || counts[3] < 20 {
		t.Errorf("so many have so many states: %v: the test tells little", counts)
	}
}

func TestRoutesOfAnyVias(t *testing.T) {
	r := chance()
	had := 0
	for range 300 {
		n := nearNet(r)
		env, down := someEnv(r, n), someDown(r, n)
		allVias(len(n.Routers), func(vias []int) {
			want := slowRoutesOf(n, env, down, vias)
			checkRoutesOf(t, n, env, down, vias, want)
			if want != nil {
				had++
			}
		})
	}
	if had < 3000 {
		t.Errorf("only %d can be had: the test tells little", had)
	}
}

// TestIsStableOfAnyRoutes goes from what is stable to routes near it, and to what routers choose by any routes.
func TestIsStableOfAnyRoutes(t *testing.T) {
	r := chance()
	stable := 0
	for range 6000 {
		n := nearNet(r)
		env, down := someEnv(r, n), someDown(r, n)
		routes := someRoutes(r, n)
		for range 6 {
			want := slowStable(n, env, down, routes)
			checkStable(t, n, env, down, routes, want)
			if want {
				stable++
			}
			routes = slowChosen(n, env, down, routes)
			if slices.ContainsFunc(routes, func(route impl.Route) bool { return route.Length > 10000 }) {
				break
			}
		}
		routes[r.Intn(len(routes))] = someRoutes(r, n)[0]
		if _, code := impl.IsStable(n, env, down, routes); code == 0 {
			checkStable(t, n, env, down, routes, slowStable(n, env, down, routes))
		}
	}
	if stable < 5000 {
		t.Errorf("only %d are stable: the test tells little", stable)
	}
}

func TestSettleWordByWord(t *testing.T) {
	r := chance()
	rest, unrest := 0, 0
	for i := range 6000 {
		n := nearNet(r)
		if i%2 == 0 {
			n = quarrelNet(r)
		}
		env, down := someEnv(r, n), fewDown(r, n)
		routes := slices.Repeat([]impl.Route{none}, len(n.Routers))
		for rounds := range 12 {
			var want []impl.Route
			if slowStable(n, env, down, routes) {
				want = routes
			}
			checkSettle(t, n, env, down, rounds, want)
			routes = slowChosen(n, env, down, routes)
		}
		if slowStable(n, env, down, routes) {
			rest++
		} else {
			unrest++
		}
	}
	if rest < 3000 || unrest < 100 {
		t.Errorf("%d come to rest, %d do not: the test tells little", rest, unrest)
	}
}
