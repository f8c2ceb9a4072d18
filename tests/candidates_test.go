package tests

import (
	"math"
	"math/rand"
	"slices"
	"strconv"
	"strings"
	"testing"

	"loop.example/g00159/impl"
)

// Tests of promise 8: what a router could have, and which of it is the best.

var (
	none = impl.Route{Via: impl.ViNone}
	self = impl.Route{Via: impl.ViSelf, Pref: 200}
)

// out is the route of an external.
func out(marked bool) impl.Route {
	return impl.Route{Via: impl.ViExternal, Pref: 100, Length: 2, Mark: marked}
}

// by is a route of a neighbour that no import has changed.
func by(via, length int) impl.Route {
	return impl.Route{Via: via, Pref: 100, Length: length}
}

// netOf is the network of a text that is right.
func netOf(t *testing.T, text string) impl.Net {
	t.Helper()
	n, code, line := impl.ReadNet(text)
	if code != 0 {
		t.Fatalf("%q: code %d in line %d", text, code, line)
	}
	return n
}

func checkCandidates(t *testing.T, n impl.Net, router int, env []int, down []bool, routes, want []impl.Route) {
	t.Helper()
	if got, code := impl.Candidates(n, router, env, down, routes); code != 0 || !slices.Equal(got, want) {
		t.Fatalf("Candidates(%v, %d, %v, %v, %v) = %v, %d, not %v", n, router, env, down, routes, got, code, want)
	}
}

func TestOriginsAndExternals(t *testing.T) {
	n := netOf(t, "router a\nrouter b\nrouter c\nrouter d\norigin b\norigin d\nexternal c\nexternal d\n")
	nothing := []impl.Route{none, none, none, none}
	for _, env := range [][]int{{0, 0}, {0, 1}, {0, 2}, {1, 0}, {1, 1}, {1, 2}, {2, 0}, {2, 1}, {2, 2}} {
		c, d := []impl.Route(nil), []impl.Route{self}
		if env[0] > 0 {
			c = append(c, out(env[0] == 2))
		}
		if env[1] > 0 {
			d = append(d, out(env[1] == 2))
		}
		checkCandidates(t, n, 0, env, nil, nothing, nil)
		checkCandidates(t, n, 1, env, nil, nothing, []impl.Route{self})
		checkCandidates(t, n, 2, env, nil, nothing, c)
		checkCandidates(t, n, 3, env, nil, nothing, d)
		// What a router has already is no matter.
		checkCandidates(t, n, 2, env, nil, []impl.Route{none, none, self, none}, c)
		checkCandidates(t, n, 3, env, nil, []impl.Route{none, none, none, out(true)}, d)
	}
	alone := impl.Net{Routers: []string{"a"}}
	checkCandidates(t, alone, 0, nil, nil, []impl.Route{none}, nil)
	checkCandidates(t, alone, 0, nil, nil, []impl.Route{self}, nil)
	alone.Origins, alone.Externals = []int{0}, []int{0}
	checkCandidates(t, alone, 0, []int{0}, nil, []impl.Route{none}, []impl.Route{self})
	checkCandidates(t, alone, 0, []int{1}, nil, []impl.Route{none}, []impl.Route{self, out(false)})
	checkCandidates(t, alone, 0, []int{2}, nil, []impl.Route{out(true)}, []impl.Route{self, out(true)})
}

// starNet has a joined to all others, by links that fall and stand either way round.
func starNet(t *testing.T) impl.Net {
	t.Helper()
	return netOf(t, "router a\nrouter b\nrouter c\nrouter d\nlink d a cost 100\nlink a c cost 7\nlink b a\n")
}

func TestCandidatesOfNeighbours(t *testing.T) {
	n := starNet(t)
	up := make([]bool, 3)
	routes := []impl.Route{none, {Via: -2, Pref: 5, Length: 3}, {Via: -1, Pref: 900, Length: 20, Mark: true}, {Via: -2}}
	all := []impl.Route{by(1, 4), {Via: 2, Pref: 100, Length: 27, Mark: true}, by(3, 100)}
	checkCandidates(t, n, 0, nil, up, routes, all)
	for mask := range 8 {
		// The links are those to d, c and b, in this order.
		down := valuesOf(mask, 3)
		var want []impl.Route
		for i, route := range all {
			if !down[2-i] {
				want = append(want, route)
			}
		}
		checkCandidates(t, n, 0, nil, down, routes, want)
	}
	// A neighbour without a route gives none, and no more does one that no link joins.
	routes[2] = none
	checkCandidates(t, n, 0, nil, up, routes, []impl.Route{all[0], all[2]})
	checkCandidates(t, n, 1, nil, up, routes, nil)
	checkCandidates(t, n, 0, nil, up, []impl.Route{none, none, none, none}, nil)
	// Its own come ahead of those of neighbours.
	n.Origins, n.Externals = []int{0, 3}, []int{0, 1}
	checkCandidates(t, n, 0, []int{2, 0}, up, routes, []impl.Route{self, out(true), all[0], all[2]})
	checkCandidates(t, n, 1, []int{2, 1}, up, routes, []impl.Route{out(false)})
}

func TestWaysThatComeBack(t *testing.T) {
	n := netOf(t, "router a\nrouter b\nrouter c\nrouter d\nlink a b\nlink b c\nlink c d\nlink d a\nlink a c\nlink b d\n")
	up := make([]bool, 6)
	for _, row := range []struct {
		vias, want []int // of router 0
	}{
		{[]int{-3, -2, -2, -2}, []int{1, 2, 3}},
		{[]int{-3, 0, -2, -2}, []int{2, 3}},  // straight back
		{[]int{-2, 0, 1, 2}, nil},            // back by one and by two others
		{[]int{-3, 2, 0, -1}, []int{3}},      // back to a router that has no route itself
		{[]int{-3, 2, 1, -2}, []int{3}},      // two go round without it
		{[]int{-3, 2, 3, 1}, nil},            // three go round without it
		{[]int{-2, 2, 1, 1}, nil},            // one comes to two that go round
		{[]int{1, 2, 3, -2}, []int{1, 2, 3}}, // by all others in a row
		{[]int{1, 2, 3, -3}, []int{1, 2}},    // a way that ends at a router without a route has an end
		{[]int{2, 3, -1, 0}, []int{2}},       // back by way of another
		{[]int{1, 0, 0, 0}, nil},             // back to a router that goes round
	} {
		var routes, want []impl.Route
		for i, via := range row.vias {
			route := impl.Route{Via: via, Pref: 10 * i, Length: i}
			if via == impl.ViNone {
				route = none
			}
			routes = append(routes, route)
		}
		for _, via := range row.want {
			want = append(want, by(via, via+1))
		}
		checkCandidates(t, n, 0, nil, up, routes, want)
	}
	// A way goes by Vias, whether their links are down or not.
	routes := []impl.Route{none, by(2, 5), by(0, 1), self}
	checkCandidates(t, n, 0, nil, []bool{false, true, true, true, true, true}, routes, nil)
	checkCandidates(t, n, 3, nil, []bool{false, true, true, true, true, false}, []impl.Route{by(1, 1), by(2, 5), self, none}, []impl.Route{by(1, 6)})
}

func TestImportsInTheirOrder(t *testing.T) {
	const head = "router a\nrouter b\nlink a b cost 3\norigin b\n"
	plain, marked := impl.Route{Via: -2, Pref: 200, Length: 4}, impl.Route{Via: -2, Pref: 200, Length: 4, Mark: true}
	for _, row := range []struct {
		imports     string // of a, from b
		plain, mark string // what becomes of both, a pref and ! for a mark; none if empty
	}{
		{"", "100", "100!"},
		{"deny", "", ""}, {"if mark deny", "100", ""}, {"if plain deny", "", "100!"},
		{"pref 7", "7", "7!"}, {"if mark pref 7", "100", "7!"}, {"if plain pref 7", "7", "100!"}, {"pref 0", "0", "0!"}, {"pref 1000", "1000", "1000!"},
		{"mark", "100!", "100!"}, {"if mark mark", "100", "100!"}, {"if plain mark", "100!", "100!"},
		{"clear", "100", "100"}, {"if mark clear", "100", "100"}, {"if plain clear", "100", "100!"},
		{"pref 7,pref 8", "8", "8!"}, {"pref 8,pref 7", "7", "7!"}, {"pref 7,deny", "", ""}, {"deny,pref 7", "", ""},
		{"mark,if mark deny", "", ""}, {"if mark deny,mark", "100!", ""}, {"clear,if mark deny", "100", "100"}, {"if mark deny,clear", "100", ""},
		{"mark,if plain pref 9", "100!", "100!"}, {"if plain pref 9,mark", "9!", "100!"}, {"clear,if plain pref 9", "9", "9"},
		{"if mark clear,if plain mark", "100!", "100!"}, {"if plain mark,if mark clear", "100", "100"}, {"mark,clear", "100", "100"}, {"clear,mark", "100!", "100!"},
		{"if mark pref 1,if plain pref 2,mark,if mark pref 3,if plain pref 4", "3!", "3!"},
		{"if plain mark,if mark pref 5,clear,if plain pref 6,if mark deny", "6", "6"},
	} {
		text := head
		for _, words := range strings.FieldsFunc(row.imports, func(c rune) bool { return c == ',' }) {
			text += "import a from b " + words + "\n"
		}
		n := netOf(t, text)
		// Imports of b do nothing at a.
		n.Imports = append(n.Imports, impl.Import{At: 1, From: 0, Do: impl.DoDeny})
		checkCandidates(t, n, 0, nil, []bool{false}, []impl.Route{none, plain}, told(row.plain))
		checkCandidates(t, n, 0, nil, []bool{false}, []impl.Route{none, marked}, told(row.mark))
		checkCandidates(t, n, 0, nil, []bool{true}, []impl.Route{none, marked}, nil)
		checkCandidates(t, n, 1, nil, []bool{false}, []impl.Route{self, none}, []impl.Route{self})
	}
}

// told is a route of b to a, of length 7, as a text tells its pref and mark.
func told(text string) []impl.Route {
	if text == "" {
		return nil
	}
	digits, marked := strings.CutSuffix(text, "!")
	pref, _ := strconv.Atoi(digits)
	return []impl.Route{{Via: 1, Pref: pref, Length: 7, Mark: marked}}
}

func TestImportsOfEachNeighbour(t *testing.T) {
	n := starNet(t)
	n.Imports = []impl.Import{
		{At: 0, From: 2, Do: impl.DoMark}, {At: 0, From: 1, When: impl.WhMark, Do: impl.DoDeny}, {At: 2, From: 0, Do: impl.DoDeny},
		{At: 0, From: 2, When: impl.WhMark, Do: impl.DoPref, N: 300}, {At: 0, From: 1, Do: impl.DoPref, N: 0}, {At: 0, From: 3, Do: impl.DoDeny},
	}
	up, routes := make([]bool, 3), []impl.Route{none, self, self, self}
	checkCandidates(t, n, 0, nil, up, routes, []impl.Route{{Via: 1, Length: 1}, {Via: 2, Pref: 300, Length: 7, Mark: true}})
	routes = []impl.Route{self, none, none, none}
	checkCandidates(t, n, 1, nil, up, routes, []impl.Route{by(0, 1)})
	checkCandidates(t, n, 2, nil, up, routes, nil)
	checkCandidates(t, n, 3, nil, up, routes, []impl.Route{by(0, 100)})
	// An origin's own route, and an external's, go past no import.
	n.Origins, n.Externals = []int{0}, []int{0}
	checkCandidates(t, n, 0, []int{1}, up, routes, []impl.Route{self, out(false)})
}

// TestBoundsOfRoutes: a length may grow beyond what may be handed in.
func TestBoundsOfRoutes(t *testing.T) {
	n := starNet(t)
	up := make([]bool, 3)
	routes := []impl.Route{none, {Via: -2, Pref: 0, Length: 0}, {Via: -1, Pref: 1000, Length: 10000, Mark: true}, {Via: -2, Pref: 1000, Length: 10000}}
	checkCandidates(t, n, 0, nil, up, routes, []impl.Route{by(1, 1), {Via: 2, Pref: 100, Length: 10007, Mark: true}, by(3, 10100)})
}

// slowWay tells whether a way by Vias has an end and does not come to a router.
func slowWay(routes []impl.Route, from, router int) bool {
	seen := map[int]int{router: 1}
	for at := from; at >= 0; at = routes[at].Via {
		seen[at]++
		if seen[at] > 1 {
			return false
		}
	}
	return true
}

// slowImports answers what the imports of a router from another make of a route.
func slowImports(n impl.Net, at, from int, route impl.Route) []impl.Route {
	for _, i := range n.Imports {
		due := i.When == 0 || i.When == 1 && route.Mark || i.When == 2 && !route.Mark
		switch {
		case i.At != at || i.From != from || !due:
		case i.Do == 1:
			return nil
		case i.Do == 2:
			route.Pref = i.N
		default:
			route.Mark = i.Do == 3
		}
	}
	return []impl.Route{route}
}

// slowOwn answers what a router could have without a neighbour.
func slowOwn(n impl.Net, router int, env []int) []impl.Route {
	var list []impl.Route
	if slices.Contains(n.Origins, router) {
		list = append(list, self)
	}
	for i, external := range n.Externals {
		if external == router && env[i] > 0 {
			list = append(list, out(env[i] == 2))
		}
	}
	return list
}

// slowCost answers the cost of the link between two, 0 if there is none or it is down.
func slowCost(n impl.Net, a, b int, down []bool) int {
	for i, l := range n.Links {
		if !down[i] && (l.A == a && l.B == b || l.A == b && l.B == a) {
			return l.Cost
		}
	}
	return 0
}

func slowCandidates(n impl.Net, router int, env []int, down []bool, routes []impl.Route) []impl.Route {
	list := slowOwn(n, router, env)
	for other, route := range routes {
		if cost := slowCost(n, router, other, down); cost > 0 && route.Via != -3 && slowWay(routes, other, router) {
			list = append(list, slowImports(n, router, other, impl.Route{Via: other, Pref: 100, Length: route.Length + cost, Mark: route.Mark})...)
		}
	}
	return list
}

// nearNet is a right network in which routes are often as good as others, and prefs stand against lengths.
func nearNet(r *rand.Rand) impl.Net {
	n := someNet(r)
	for i := range n.Links {
		n.Links[i].Cost = 1 + r.Intn(2)
	}
	for i := range n.Imports {
		if n.Imports[i].Do == impl.DoPref {
			n.Imports[i].N = []int{50, 100, 150, 200, 250}[r.Intn(5)]
		}
	}
	if r.Intn(2) == 0 {
		n.Origins = []int{r.Intn(len(n.Routers))}
	}
	return n
}

func someEnv(r *rand.Rand, n impl.Net) []int {
	var env []int
	for range n.Externals {
		env = append(env, r.Intn(3))
	}
	return env
}

// someDown has mostly few links down.
func someDown(r *rand.Rand, n impl.Net) []bool {
	return valuesOf(r.Intn(64)&r.Intn(64), len(n.Links))
}

// someRoutes are right, and mostly not to be had.
func someRoutes(r *rand.Rand, n impl.Net) []impl.Route {
	var routes []impl.Route
	for router := range n.Routers {
		vias := []int{-3, -2, -1}
		for _, l := range n.Links {
			if l.A == router {
				vias = append(vias, l.B, l.B)
			}
			if l.B == router {
				vias = append(vias, l.A, l.A)
			}
		}
		route := impl.Route{Via: vias[r.Intn(len(vias))], Pref: r.Intn(1001), Length: r.Intn(10001), Mark: r.Intn(2) == 0}
		if route.Via == -3 {
			route = none
		}
		routes = append(routes, route)
	}
	return routes
}

func TestCandidatesWordByWord(t *testing.T) {
	r := chance()
	counts := map[int]int{}
	for range 40000 {
		n := nearNet(r)
		env, down, routes := someEnv(r, n), someDown(r, n), someRoutes(r, n)
		for router := range n.Routers {
			want := slowCandidates(n, router, env, down, routes)
			checkCandidates(t, n, router, env, down, routes, want)
			counts[len(want)]++
		}
	}
	if counts[0] < 10000 || counts[1] < 10000 || counts[2] < 10000 || counts[3] < 2000 || counts[4] < 100 {
		t.Errorf("so many have so many candidates: %v: the test tells little", counts)
	}
}

func checkBest(t *testing.T, list []impl.Route, want impl.Route) {
	t.Helper()
	if got, code := impl.BestRoute(list); code != 0 || got != want {
		t.Fatalf("BestRoute(%s) = %v, %d, not %v", brief(list), got, code, want)
	}
}

func TestBestRoute(t *testing.T) {
	// Each is better than all behind it.
	falling := []impl.Route{
		{Via: 5, Pref: math.MaxInt, Length: math.MaxInt}, {Via: 3, Pref: 1001, Length: 9}, {Via: 3, Pref: 1000, Length: math.MinInt}, {Via: 1, Pref: 1000, Length: -1},
		{Via: 3, Pref: 1000, Length: 8}, {Via: math.MinInt, Pref: 1000, Length: 9}, {Via: -3, Pref: 1000, Length: 9}, {Via: -2, Pref: 1000, Length: 9}, {Via: -1, Pref: 1000, Length: 9}, {Via: 0, Pref: 1000, Length: 9},
		{Via: math.MaxInt, Pref: 1000, Length: 9}, {Via: -3, Pref: 1000, Length: math.MaxInt}, self, {Via: -2, Pref: 101, Length: 8}, out(false), by(0, 2), by(0, 3), by(1, 3), by(0, 4),
		{Via: -3, Pref: 0, Length: 0}, {Via: -2, Pref: 0, Length: 0}, {Via: -3, Pref: 0, Length: 1}, {Via: -3, Pref: -1}, {Via: 0, Pref: math.MinInt, Length: math.MinInt}, {Via: 1, Pref: math.MinInt, Length: math.MaxInt},
	}
	for i, best := range falling {
		checkBest(t, []impl.Route{best}, best)
		for _, worse := range falling[i+1:] {
			checkBest(t, []impl.Route{best, worse}, best)
			checkBest(t, []impl.Route{worse, best}, best)
			checkBest(t, []impl.Route{worse, best, worse}, best)
		}
		rest := slices.Clone(falling[i:])
		checkBest(t, rest, best)
		slices.Reverse(rest)
		checkBest(t, rest, best)
	}
}

// TestBestRouteOfEquals: a mark makes nothing better, so that the first counts.
func TestBestRouteOfEquals(t *testing.T) {
	plain, marked, worse := by(1, 3), by(1, 3), by(2, 3)
	marked.Mark, worse.Mark = true, true
	checkBest(t, []impl.Route{plain, marked}, plain)
	checkBest(t, []impl.Route{marked, plain}, marked)
	checkBest(t, []impl.Route{worse, marked, plain, marked}, marked)
	checkBest(t, []impl.Route{worse, plain, worse, marked}, plain)
	checkBest(t, []impl.Route{plain, plain, plain}, plain)
	checkBest(t, []impl.Route{none}, none)
	checkBest(t, []impl.Route{none, {}}, none)
}

func TestBestOfManyRoutes(t *testing.T) {
	list := slices.Repeat([]impl.Route{by(3, 9)}, impl.MaxList)
	checkBest(t, list, by(3, 9))
	list[impl.MaxList-1] = by(2, 9)
	checkBest(t, list, by(2, 9))
	for _, long := range [][]impl.Route{append(list, self), make([]impl.Route, impl.MaxList+1), make([]impl.Route, 100000)} {
		if best, code := impl.BestRoute(long); code != impl.ErrLong || best != (impl.Route{}) {
			t.Errorf("BestRoute of %d routes: %v, %d", len(long), best, code)
		}
	}
	for _, empty := range [][]impl.Route{nil, {}} {
		if best, code := impl.BestRoute(empty); code != impl.ErrNone || best != (impl.Route{}) {
			t.Errorf("BestRoute of none: %v, %d", best, code)
		}
	}
}

// slowBest answers the first route that no other is better than.
func slowBest(list []impl.Route) impl.Route {
	better := func(a, b impl.Route) bool {
		if a.Pref != b.Pref {
			return a.Pref > b.Pref
		}
		if a.Length != b.Length {
			return a.Length < b.Length
		}
		return a.Via < b.Via
	}
	for _, route := range list {
		if !slices.ContainsFunc(list, func(other impl.Route) bool { return better(other, route) }) {
			return route
		}
	}
	return none
}

func TestBestOfAnyRoutes(t *testing.T) {
	r := chance()
	for range 40000 {
		var list []impl.Route
		for range 1 + r.Intn(8) {
			list = append(list, impl.Route{Via: r.Intn(3), Pref: r.Intn(3), Length: r.Intn(3), Mark: r.Intn(2) == 0})
			if r.Intn(4) == 0 {
				list[len(list)-1].Pref = oddNumber(r)
			}
			if r.Intn(4) == 0 {
				list[len(list)-1].Length = oddNumber(r)
			}
			if r.Intn(4) == 0 {
				list[len(list)-1].Via = oddNumber(r)
			}
		}
		checkBest(t, list, slowBest(list))
	}
}
