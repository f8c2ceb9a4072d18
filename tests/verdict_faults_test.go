package tests

import (
	"math"
	"slices"
	"testing"

	"loop.example/g00159/impl"
)

// Tests of promise 9: what the calls of chapter 9 tell of wrong arguments, and of two faults the first.

// inquiry is what is handed in to Forward, Verify and Replay.
type inquiry struct {
	n          impl.Net
	down       []bool
	routes     []impl.Route
	from, port int
	p          impl.Property
	k          int
	v          impl.Verdict
}

// flaw is a fault of one call: of two of them the one of the lesser rank is told, and no two of one place go together.
type flaw struct {
	name       string
	place      string
	rank, code int
	spoil      func(q *inquiry)
}

func rightInquiry(t *testing.T) inquiry {
	t.Helper()
	n := netOf(t, rowNet+"external b\nexternal d\nimport c from b mark\nfilter b to a port 3 4\n")
	marked := impl.Route{Via: 1, Pref: 100, Length: 6, Mark: true}
	return inquiry{
		n: n, down: make([]bool, 3), routes: []impl.Route{self, by(0, 1), marked, out(true)}, from: 2, port: 7,
		p: impl.Property{Kind: impl.PrReach, From: 1, Port: -1}, k: 1,
		v: violated(9, "000", []int{0, 1}, []int{-2, 0, 1, -1}, 3),
	}
}

func copyOfInquiry(q inquiry) inquiry {
	q.n = copyOfNet(q.n)
	q.down, q.routes = slices.Clone(q.down), slices.Clone(q.routes)
	q.v.Down, q.v.Env, q.v.Vias = slices.Clone(q.v.Down), slices.Clone(q.v.Env), slices.Clone(q.v.Vias)
	return q
}

// forwardCode, verifyCode and replayCode answer a call's code, and whether all else is zero beside one.
func forwardCode(q inquiry) (int, bool) {
	w, code := impl.Forward(q.n, q.down, q.routes, q.from, q.port)
	return code, code == 0 || sameWalk(w, impl.Walk{})
}

func verifyCode(q inquiry) (int, bool) {
	v, code := impl.Verify(q.n, q.p, q.k)
	return code, code == 0 || sameVerdict(v, impl.Verdict{})
}

func replayCode(q inquiry) (int, bool) {
	yes, code := impl.Replay(q.n, q.p, q.k, q.v)
	return code, code == 0 || !yes
}

func netFlaws() []flaw {
	bad := func(name string, spoil func(n *impl.Net)) flaw {
		return flaw{name, "net", 1, impl.ErrBad, func(q *inquiry) { spoil(&q.n) }}
	}
	return []flaw{
		bad("a cost of 0", func(n *impl.Net) { n.Links[1].Cost = 0 }),
		bad("a name that is none", func(n *impl.Net) { n.Routers[2] = "9" }),
		bad("a wrong import", func(n *impl.Net) { n.Imports[0].N = 1 }),
		bad("a wrong filter", func(n *impl.Net) { n.Filters[0].High = 2 }),
		bad("externals that do not rise", func(n *impl.Net) { n.Externals = []int{3, 1} }),
		bad("an origin that is no router", func(n *impl.Net) { n.Origins = []int{4} }),
		bad("no network", func(n *impl.Net) { *n = impl.Net{} }),
	}
}

func forwardFlaws() []flaw {
	long := impl.MaxList + 1
	list := append(netFlaws(),
		flaw{"flags beyond MaxList", "down", 0, impl.ErrLong, func(q *inquiry) { q.down = make([]bool, long) }},
		flaw{"flags without number", "down", 0, impl.ErrLong, func(q *inquiry) { q.down = make([]bool, 100000) }},
		flaw{"routes beyond MaxList", "routes", 0, impl.ErrLong, func(q *inquiry) { q.routes = slices.Repeat([]impl.Route{none}, long) }},
		flaw{"no routes", "routes", 2, impl.ErrBad, func(q *inquiry) { q.routes = nil }},
		flaw{"a route too few", "routes", 2, impl.ErrBad, func(q *inquiry) { q.routes = q.routes[:3] }},
		flaw{"a route too many", "routes", 2, impl.ErrBad, func(q *inquiry) { q.routes = append(slices.Clone(q.routes), none) }},
		flaw{"MaxList routes", "routes", 2, impl.ErrBad, func(q *inquiry) { q.routes = slices.Repeat([]impl.Route{none}, impl.MaxList) }},
		flaw{"no flags", "down", 3, impl.ErrRange, func(q *inquiry) { q.down = nil }},
		flaw{"two flags", "down", 3, impl.ErrRange, func(q *inquiry) { q.down = []bool{true, true} }},
		flaw{"four flags", "down", 3, impl.ErrRange, func(q *inquiry) { q.down = make([]bool, 4) }},
		flaw{"MaxList flags", "down", 3, impl.ErrRange, func(q *inquiry) { q.down = make([]bool, impl.MaxList) }},
		flaw{"a link of the way is down", "down", 4, impl.ErrState, func(q *inquiry) { q.down[0] = true }},
		flaw{"another link of the way is down", "down", 4, impl.ErrState, func(q *inquiry) { q.down[1] = true }},
		flaw{"all links are down", "down", 4, impl.ErrState, func(q *inquiry) { q.down = []bool{true, true, true} }},
	)
	for _, route := range []impl.Route{{Via: -4}, by(4, 1), by(3, 1), by(1, 1), {Via: -3, Pref: 1}, {Via: -3, Length: 1}, {Via: -3, Mark: true}, {Via: 0, Pref: -1}, {Via: 0, Pref: 1001}, {Via: 0, Length: -1}, {Via: 0, Length: 10001}, {Via: math.MaxInt}, {Via: math.MinInt}} {
		list = append(list, flaw{"a wrong route", "routes", 2, impl.ErrBad, func(q *inquiry) { q.routes[1] = route }})
	}
	list = append(list, flaw{"a wrong last route", "routes", 2, impl.ErrBad, func(q *inquiry) { q.routes[3].Via = 1 }})
	for _, number := range append([]int{4, 5}, oddly...) {
		list = append(list, flaw{"from no router", "from", 3, impl.ErrRange, func(q *inquiry) { q.from = number }})
	}
	for _, number := range append([]int{16, 17}, oddly...) {
		list = append(list, flaw{"no port", "port", 3, impl.ErrRange, func(q *inquiry) { q.port = number }})
	}
	return list
}

func propertyFlaws(rank int) []flaw {
	var list []flaw
	for _, p := range wrongProperties() {
		list = append(list, flaw{"a wrong property", "property", rank, impl.ErrBad, func(q *inquiry) { q.p = p }})
	}
	return list
}

func downFlaws(rank int) []flaw {
	var list []flaw
	for _, number := range append([]int{3, 4}, oddly...) {
		list = append(list, flaw{"a wrong k", "k", rank, impl.ErrRange, func(q *inquiry) { q.k = number }})
	}
	return list
}

func verifyFlaws() []flaw {
	return slices.Concat(netFlaws(), propertyFlaws(2), downFlaws(3))
}

func replayFlaws() []flaw {
	long := impl.MaxList + 1
	list := slices.Concat(netFlaws(), propertyFlaws(3), downFlaws(4))
	with := func(name, place string, rank, code int, spoil func(v *impl.Verdict)) {
		list = append(list, flaw{name, place, rank, code, func(q *inquiry) { spoil(&q.v) }})
	}
	for _, env := range [][]int{nil, {0}, {0, 0, 0}, make([]int, 4), make([]int, impl.MaxList), make([]int, long), {3, 0}, {0, 3}, {-1, 0}, {0, -1}, {math.MaxInt, 0}, {0, math.MinInt}} {
		with("wrong announcements", "env", 2, impl.ErrRange, func(v *impl.Verdict) { v.Env = env })
	}
	for _, count := range []int{0, 2, 4, impl.MaxList, long} {
		with("wrong flags", "down", 2, impl.ErrRange, func(v *impl.Verdict) { v.Down = make([]bool, count) })
	}
	with("it holds", "holds", 3, impl.ErrBad, func(v *impl.Verdict) { v.Holds = true })
	for _, vias := range [][]int{nil, {-2, 0, 1}, {-2, 0, 1, -1, -3}, repeated(-3, impl.MaxList), repeated(-3, long), {-4, 0, 1, -1}, {-2, 0, 1, 4}, {-2, 0, 1, math.MaxInt}, {math.MinInt, 1, 0, 0}} {
		with("wrong vias", "vias", 4, impl.ErrRange, func(v *impl.Verdict) { v.Vias = vias })
	}
	for _, number := range append([]int{16, 17}, oddly...) {
		with("no port", "port", 4, impl.ErrRange, func(v *impl.Verdict) { v.Port = number })
	}
	list = append(list, flaw{"a port that is not the property's", "port", 4, impl.ErrRange, func(q *inquiry) { q.p.Port = 4 }})
	return list
}

// checkFlaws has each fault alone, then each with another.
func checkFlaws(t *testing.T, call func(q inquiry) (int, bool), right inquiry, flaws []flaw) {
	t.Helper()
	check := func(name string, q inquiry, want int) {
		t.Helper()
		if code, isZero := call(q); code != want || !isZero {
			t.Fatalf("%s: code %d, not %d, all else zero: %v: %s", name, code, want, isZero, brief(q))
		}
	}
	check("nothing wrong", right, 0)
	for _, f := range flaws {
		q := copyOfInquiry(right)
		f.spoil(&q)
		check(f.name, q, f.code)
		for _, other := range flaws {
			if f.place == other.place || f.rank > other.rank {
				continue
			}
			q := copyOfInquiry(right)
			other.spoil(&q)
			f.spoil(&q)
			check(f.name+" and "+other.name, q, f.code)
		}
	}
}

func TestForwardFaults(t *testing.T) {
	checkFlaws(t, forwardCode, rightInquiry(t), forwardFlaws())
}

func TestVerifyFaults(t *testing.T) {
	checkFlaws(t, verifyCode, rightInquiry(t), verifyFlaws())
}

func TestReplayFaults(t *testing.T) {
	right := rightInquiry(t)
	checkFlaws(t, replayCode, right, replayFlaws())
	checkReplay(t, right.n, right.p, right.k, right.v, true)
}

// TestAnyLinkDown: the link of any router's Via counts, be the packet there or not, and no other link.
func TestAnyLinkDown(t *testing.T) {
	n := meshNet(t) // links ab, ca, ad, cb, bd, dc
	for place, vias := range [][]int{{1, -2, -2, -2}, {-2, -2, 0, -2}, {3, -2, -2, -2}, {-2, 2, -2, -2}, {-2, -2, -2, 1}, {-2, -2, 3, -2}} {
		for mask := range 64 {
			down := valuesOf(mask, 6)
			for from := range 4 {
				want := 0
				if down[place] {
					want = impl.ErrState
				}
				if _, code := impl.Forward(n, down, routesBy(vias...), from, 9); code != want {
					t.Fatalf("Forward by %v with %v down, from %d: code %d", vias, down, from, code)
				}
			}
		}
	}
}

// TestBoundsOfInquiries has all that is just within its bounds.
func TestBoundsOfInquiries(t *testing.T) {
	right := rightInquiry(t)
	check := func(name string, call func(q inquiry) (int, bool), change func(q *inquiry)) {
		t.Helper()
		q := copyOfInquiry(right)
		change(&q)
		if code, _ := call(q); code != 0 {
			t.Errorf("%s: code %d", name, code)
		}
	}
	for _, port := range []int{0, 15} {
		check("a port", forwardCode, func(q *inquiry) { q.port = port })
		check("a port", verifyCode, func(q *inquiry) { q.p.Port = port })
		check("a port", replayCode, func(q *inquiry) { q.v.Port = port })
		check("the property's port", replayCode, func(q *inquiry) { q.v.Port, q.p.Port = port, port })
	}
	for _, from := range []int{0, 3} {
		check("a router", forwardCode, func(q *inquiry) { q.from = from })
		check("a router", verifyCode, func(q *inquiry) { q.p.From = from })
		check("a router", replayCode, func(q *inquiry) { q.p.From = from })
		check("a way", verifyCode, func(q *inquiry) { q.p = impl.Property{Kind: impl.PrWay, From: 3, Port: 15, Way: from} })
		check("a way", replayCode, func(q *inquiry) { q.p = impl.Property{Kind: impl.PrWay, From: 3, Port: -1, Way: from} })
	}
	for k := range impl.MaxDown + 1 {
		check("k", verifyCode, func(q *inquiry) { q.k = k })
		check("k", replayCode, func(q *inquiry) { q.k = k })
	}
	for _, vias := range [][]int{{-3, -3, -3, -3}, {3, 3, 3, 3}, {0, 1, 2, 3}, {-1, -2, -3, 0}} {
		check("vias", replayCode, func(q *inquiry) { q.v.Vias = vias })
	}
	for _, env := range slowAnnouncements(2) {
		check("announcements", replayCode, func(q *inquiry) { q.v.Env = env })
	}
	check("all links down", replayCode, func(q *inquiry) { q.v.Down = []bool{true, true, true} })
	check("a link down that nobody goes by", forwardCode, func(q *inquiry) { q.down[2] = true })
	check("the greatest routes", forwardCode, func(q *inquiry) {
		q.routes = slices.Repeat([]impl.Route{{Via: -2, Pref: 1000, Length: 10000, Mark: true}}, 4)
	})
}
