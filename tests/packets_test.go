package tests

import (
	"math/rand"
	"slices"
	"testing"

	"loop.example/g00159/impl"
)

// Tests of promise 9: packets, the way that they go and how they end.

// routesBy are right routes of Vias, with nothing else that matters to a packet.
func routesBy(vias ...int) []impl.Route {
	var routes []impl.Route
	for _, via := range vias {
		route := impl.Route{Via: via, Pref: 100, Length: 1}
		if via == impl.ViNone {
			route = none
		}
		routes = append(routes, route)
	}
	return routes
}

func sameWalk(a, b impl.Walk) bool {
	return a.Outcome == b.Outcome && slices.Equal(a.Path, b.Path)
}

func checkForward(t *testing.T, n impl.Net, down []bool, routes []impl.Route, from, port int, want impl.Walk) {
	t.Helper()
	if got, code := impl.Forward(n, down, routes, from, port); code != 0 || !sameWalk(got, want) {
		t.Fatalf("Forward(%v, %v, %v, %d, %d) = %v, %d, not %v", n, down, routes, from, port, got, code, want)
	}
}

// meshNet has all links, and no filter.
func meshNet(t *testing.T) impl.Net {
	t.Helper()
	return netOf(t, "router a\nrouter b\nrouter c\nrouter d\nlink a b\nlink c a\nlink a d\nlink c b\nlink b d\nlink d c\n")
}

func TestForward(t *testing.T) {
	n := meshNet(t)
	for _, row := range []struct {
		vias    []int
		from    int
		outcome int
		path    []int
	}{
		{[]int{-2, -2, -2, -2}, 0, impl.OcOwn, []int{0}},
		{[]int{-1, -2, -2, -2}, 0, impl.OcOut, []int{0}},
		{[]int{-3, -2, -2, -2}, 0, impl.OcNoRoute, []int{0}},
		{[]int{-3, -2, -1, -3}, 3, impl.OcNoRoute, []int{3}},
		{[]int{-3, -2, -1, 1}, 3, impl.OcOwn, []int{3, 1}},
		{[]int{-3, -2, -1, 2}, 3, impl.OcOut, []int{3, 2}},
		{[]int{-3, -2, -1, 0}, 3, impl.OcNoRoute, []int{3, 0}},
		{[]int{1, 2, 3, -2}, 0, impl.OcOwn, []int{0, 1, 2, 3}},
		{[]int{1, 2, 3, -1}, 0, impl.OcOut, []int{0, 1, 2, 3}},
		{[]int{1, 2, 3, -3}, 0, impl.OcNoRoute, []int{0, 1, 2, 3}},
		{[]int{1, 2, 3, -2}, 1, impl.OcOwn, []int{1, 2, 3}},
		{[]int{1, 2, 3, -2}, 3, impl.OcOwn, []int{3}},
		{[]int{-2, 3, 0, 2}, 1, impl.OcOwn, []int{1, 3, 2, 0}},
		// What others do who are not on the way is no matter.
		{[]int{-2, 2, 1, 0}, 3, impl.OcOwn, []int{3, 0}},
		// It goes round: as many routers as there are, and the next one, too.
		{[]int{1, 2, 3, 0}, 0, impl.OcNoRoute, []int{0, 1, 2, 3, 0}},
		{[]int{1, 2, 3, 0}, 2, impl.OcNoRoute, []int{2, 3, 0, 1, 2}},
		{[]int{1, 0, -2, -2}, 0, impl.OcNoRoute, []int{0, 1, 0, 1, 0}},
		{[]int{1, 0, -2, -2}, 1, impl.OcNoRoute, []int{1, 0, 1, 0, 1}},
		{[]int{1, 2, 0, -2}, 0, impl.OcNoRoute, []int{0, 1, 2, 0, 1}},
		{[]int{1, 2, 3, 2}, 0, impl.OcNoRoute, []int{0, 1, 2, 3, 2}},
		{[]int{1, 2, 3, 1}, 0, impl.OcNoRoute, []int{0, 1, 2, 3, 1}},
		{[]int{1, 2, 1, -2}, 0, impl.OcNoRoute, []int{0, 1, 2, 1, 2}},
	} {
		for _, port := range []int{0, 7, 15} {
			checkForward(t, n, make([]bool, 6), routesBy(row.vias...), row.from, port, impl.Walk{Outcome: row.outcome, Path: row.path})
		}
	}
}

func TestForwardInSmallNets(t *testing.T) {
	alone := impl.Net{Routers: []string{"a"}}
	checkForward(t, alone, nil, routesBy(-2), 0, 0, impl.Walk{Outcome: impl.OcOwn, Path: []int{0}})
	checkForward(t, alone, nil, routesBy(-1), 0, 15, impl.Walk{Outcome: impl.OcOut, Path: []int{0}})
	checkForward(t, alone, nil, routesBy(-3), 0, 9, impl.Walk{Outcome: impl.OcNoRoute, Path: []int{0}})
	two := netOf(t, "router a\nrouter b\nlink b a\n")
	checkForward(t, two, []bool{false}, routesBy(1, 0), 0, 0, impl.Walk{Outcome: impl.OcNoRoute, Path: []int{0, 1, 0}})
	checkForward(t, two, []bool{false}, routesBy(1, 0), 1, 0, impl.Walk{Outcome: impl.OcNoRoute, Path: []int{1, 0, 1}})
	checkForward(t, two, []bool{false}, routesBy(1, -1), 0, 0, impl.Walk{Outcome: impl.OcOut, Path: []int{0, 1}})
	checkForward(t, two, []bool{true}, routesBy(-1, -2), 1, 0, impl.Walk{Outcome: impl.OcOwn, Path: []int{1}})
}

// TestFiltersAtTheirPorts has a filter on the way out and another on the way back, and each port.
func TestFiltersAtTheirPorts(t *testing.T) {
	for _, bounds := range [][2]int{{0, 0}, {15, 15}, {0, 15}, {3, 4}, {7, 7}, {0, 3}, {12, 15}} {
		n := netOf(t, "router a\nrouter b\nrouter c\nlink b a\nlink b c\n")
		n.Filters = []impl.Filter{{At: 1, To: 2, Low: bounds[0], High: bounds[1]}}
		for port := range impl.MaxPort + 1 {
			there, back := impl.Walk{Outcome: impl.OcOwn, Path: []int{0, 1, 2}}, impl.Walk{Outcome: impl.OcOut, Path: []int{2, 1, 0}}
			near := impl.Walk{Outcome: impl.OcOwn, Path: []int{1, 2}}
			if port >= bounds[0] && port <= bounds[1] {
				there = impl.Walk{Outcome: impl.OcFilter, Path: []int{0, 1}}
				near = impl.Walk{Outcome: impl.OcFilter, Path: []int{1}}
			}
			checkForward(t, n, []bool{false, false}, routesBy(1, 2, -2), 0, port, there)
			checkForward(t, n, []bool{false, false}, routesBy(1, 2, -2), 1, port, near)
			checkForward(t, n, []bool{false, false}, routesBy(1, 2, -2), 2, port, impl.Walk{Outcome: impl.OcOwn, Path: []int{2}})
			checkForward(t, n, []bool{false, false}, routesBy(-1, 0, 1), 2, port, back)
		}
	}
}

func TestFiltersOfSeveral(t *testing.T) {
	n := netOf(t, "router a\nrouter b\nrouter c\nlink a b\nlink b c\nlink c a\nfilter a to b port 2 3\nfilter a to b port 5 9\nfilter a to c port 4 4\nfilter a to b port 8 11\nfilter c to b port 0 15\n")
	up := make([]bool, 3)
	for port := range impl.MaxPort + 1 {
		want := impl.Walk{Outcome: impl.OcOut, Path: []int{0, 1}}
		if slices.Contains([]int{2, 3, 5, 6, 7, 8, 9, 10, 11}, port) {
			want = impl.Walk{Outcome: impl.OcFilter, Path: []int{0}}
		}
		checkForward(t, n, up, routesBy(1, -1, -3), 0, port, want)
		want = impl.Walk{Outcome: impl.OcNoRoute, Path: []int{0, 2}}
		if port == 4 {
			want = impl.Walk{Outcome: impl.OcFilter, Path: []int{0}}
		}
		checkForward(t, n, up, routesBy(2, -1, -3), 0, port, want)
	}
}

// TestFiltersWhereItEnds: a filter stops one that would go round, and none that has no link to go by.
func TestFiltersWhereItEnds(t *testing.T) {
	n := meshNet(t)
	up := make([]bool, 6)
	n.Filters = []impl.Filter{{At: 3, To: 0, Low: 6, High: 6}, {At: 2, To: 3, Low: 8, High: 8}}
	round := routesBy(1, 2, 3, 0)
	checkForward(t, n, up, round, 0, 5, impl.Walk{Outcome: impl.OcNoRoute, Path: []int{0, 1, 2, 3, 0}})
	checkForward(t, n, up, round, 0, 6, impl.Walk{Outcome: impl.OcFilter, Path: []int{0, 1, 2, 3}})
	checkForward(t, n, up, round, 1, 6, impl.Walk{Outcome: impl.OcFilter, Path: []int{1, 2, 3}})
	checkForward(t, n, up, round, 3, 6, impl.Walk{Outcome: impl.OcFilter, Path: []int{3}})
	checkForward(t, n, up, round, 0, 8, impl.Walk{Outcome: impl.OcFilter, Path: []int{0, 1, 2}})
	for _, via := range []int{-3, -2, -1} {
		outcome := map[int]int{-3: impl.OcNoRoute, -2: impl.OcOwn, -1: impl.OcOut}[via]
		checkForward(t, n, up, routesBy(1, 2, -2, via), 3, 6, impl.Walk{Outcome: outcome, Path: []int{3}})
	}
}

// TestForwardTakesAnyRoutes: they need not be such as routers could have.
func TestForwardTakesAnyRoutes(t *testing.T) {
	n := netOf(t, "router a\nrouter b\nlink a b cost 9\nexternal a\nimport b from a deny\n")
	greatest := impl.Route{Via: 0, Pref: 1000, Length: 10000, Mark: true}
	checkForward(t, n, []bool{false}, []impl.Route{{Via: -2}, greatest}, 1, 0, impl.Walk{Outcome: impl.OcOwn, Path: []int{1, 0}})
	checkForward(t, n, []bool{false}, []impl.Route{{Via: -1, Length: 10000}, {Via: 0}}, 1, 0, impl.Walk{Outcome: impl.OcOut, Path: []int{1, 0}})
	checkForward(t, n, []bool{false}, []impl.Route{none, greatest}, 1, 0, impl.Walk{Outcome: impl.OcNoRoute, Path: []int{1, 0}})
}

// slowWalk tells how a packet ends, one sentence behind the other.
func slowWalk(n impl.Net, routes []impl.Route, port int, path []int) impl.Walk {
	at := path[len(path)-1]
	via := routes[at].Via
	if via < 0 {
		return impl.Walk{Outcome: []int{impl.OcNoRoute, impl.OcOwn, impl.OcOut}[via+3], Path: path}
	}
	for _, f := range n.Filters {
		if f.At == at && f.To == via && f.Low <= port && port <= f.High {
			return impl.Walk{Outcome: impl.OcFilter, Path: path}
		}
	}
	further := append(slices.Clone(path), via)
	if len(path) == len(n.Routers) {
		return impl.Walk{Outcome: impl.OcNoRoute, Path: further}
	}
	return slowWalk(n, routes, port, further)
}

// filteredNet has more filters than someNet has.
func filteredNet(r *rand.Rand) impl.Net {
	n := nearNet(r)
	for len(n.Links) > 0 && len(n.Filters) < impl.MaxFilters && r.Intn(5) > 0 {
		l := n.Links[r.Intn(len(n.Links))]
		f := impl.Filter{At: l.A, To: l.B, Low: r.Intn(16)}
		if r.Intn(2) == 0 {
			f.At, f.To = l.B, l.A
		}
		f.High = f.Low + r.Intn(16-f.Low)
		n.Filters = append(n.Filters, f)
	}
	return n
}

// slowDown tells whether the link of a Via is down.
func slowDown(n impl.Net, down []bool, routes []impl.Route) bool {
	for router, route := range routes {
		if route.Via >= 0 && slowCost(n, router, route.Via, down) == 0 {
			return true
		}
	}
	return false
}

func TestForwardWordByWord(t *testing.T) {
	r := chance()
	outcomes, rounds, stopped := map[int]int{}, 0, 0
	for range 20000 {
		n := filteredNet(r)
		down, routes := fewDown(r, n), someRoutes(r, n)
		isDown := slowDown(n, down, routes)
		for from := range n.Routers {
			port := r.Intn(16)
			if isDown {
				if w, code := impl.Forward(n, down, routes, from, port); code != impl.ErrState || !sameWalk(w, impl.Walk{}) {
					t.Fatalf("Forward(%v, %v, %v, %d, %d) = %v, %d", n, down, routes, from, port, w, code)
				}
				stopped++
				continue
			}
			want := slowWalk(n, routes, port, []int{from})
			checkForward(t, n, down, routes, from, port, want)
			outcomes[want.Outcome]++
			if len(want.Path) > len(n.Routers) {
				rounds++
			}
		}
	}
	if outcomes[1] < 5000 || outcomes[2] < 5000 || outcomes[3] < 5000 || outcomes[4] < 2000 || rounds < 2000 || stopped < 2000 {
		t.Errorf("outcomes %v, %d go round, %d with a link down: the test tells little", outcomes, rounds, stopped)
	}
}
