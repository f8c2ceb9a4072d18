package tests

import (
	"fmt"
	"math/rand"
	"slices"
	"strings"
	"testing"

	"loop.example/g00159/impl"
)

// Tests of promise 9: verdicts, in which order all is looked at, and that what is violated is had again.

const (
	// To c it is nearest by b; the straight link costs more.
	detourNet = "router a\nrouter b\nrouter c\nlink a b\nlink b c\nlink a c cost 5\norigin c\nexternal a\nfilter a to b port 3 4\n"

	// What is announced at both ends comes to b in the middle.
	endsNet = "router a\nrouter b\nrouter c\nlink a b\nlink b c\nexternal a\nexternal c\n"
)

func sameVerdict(a, b impl.Verdict) bool {
	return a.Holds == b.Holds && a.States == b.States && slices.Equal(a.Down, b.Down) && slices.Equal(a.Env, b.Env) && slices.Equal(a.Vias, b.Vias) && a.Port == b.Port
}

func holds(states int) impl.Verdict {
	return impl.Verdict{Holds: true, States: states}
}

// violated is a verdict whose flags are told as a text, a 1 for each link that is down.
func violated(states int, down string, env, vias []int, port int) impl.Verdict {
	v := impl.Verdict{States: states, Env: env, Vias: vias, Port: port}
	for _, c := range down {
		v.Down = append(v.Down, c == '1')
	}
	return v
}

func checkReplay(t *testing.T, n impl.Net, p impl.Property, k int, v impl.Verdict, want bool) {
	t.Helper()
	if got, code := impl.Replay(n, p, k, v); code != 0 || got != want {
		t.Fatalf("Replay(%v, %v, %d, %v) = %v, %d", n, p, k, v, got, code)
	}
}

// checkVerify holds a verdict against what is due, and has it again.
func checkVerify(t *testing.T, n impl.Net, p impl.Property, k int, want impl.Verdict) {
	t.Helper()
	got, code := impl.Verify(n, p, k)
	if code != 0 || !sameVerdict(got, want) {
		t.Fatalf("Verify(%v, %v, %d) = %v, %d, not %v", n, p, k, got, code, want)
	}
	if got.Holds {
		return
	}
	for more := k; more <= impl.MaxDown; more++ {
		checkReplay(t, n, p, more, got, true)
	}
	for fewer := range strings.Count(fmt.Sprint(got.Down), "true") {
		checkReplay(t, n, p, fewer, got, false)
	}
}

// verdictRow is a question and its answer, worked out by hand.
type verdictRow struct {
	text string
	p    impl.Property
	k    int
	want impl.Verdict
}

func checkVerdicts(t *testing.T, rows []verdictRow) {
	t.Helper()
	for _, row := range rows {
		checkVerify(t, netOf(t, row.text), row.p, row.k, row.want)
	}
}

func TestVerifyEachKind(t *testing.T) {
	reach := impl.Property{Kind: impl.PrReach, From: 0, Port: -1}
	reachFive := impl.Property{Kind: impl.PrReach, From: 0, Port: 5}
	never := impl.Property{Kind: impl.PrNever, From: 0, Port: 4}
	way := impl.Property{Kind: impl.PrWay, From: 0, Port: 5, Way: 1}
	own := impl.Property{Kind: impl.PrOwn, From: 0, Port: 5}
	checkVerdicts(t, []verdictRow{
		{detourNet, reach, 0, violated(1, "000", []int{0}, []int{1, 2, -2}, 3)},
		{detourNet, impl.Property{Kind: impl.PrReach, From: 0, Port: 3}, 0, violated(1, "000", []int{0}, []int{1, 2, -2}, 3)},
		{detourNet, impl.Property{Kind: impl.PrReach, From: 0, Port: 4}, 2, violated(1, "000", []int{0}, []int{1, 2, -2}, 4)},
		{detourNet, impl.Property{Kind: impl.PrReach, From: 0, Port: 2}, 1, holds(12)},
		{detourNet, reachFive, 0, holds(3)},
		{detourNet, reachFive, 1, holds(12)},
		{detourNet, reachFive, 2, violated(13, "011", []int{0}, []int{-3, -3, -2}, 5)},
		// a goes out where it may, for that is no longer than by b, and its Via is less.
		{detourNet, never, 0, violated(2, "000", []int{1}, []int{-1, 2, -2}, 4)},
		{detourNet, impl.Property{Kind: impl.PrNever, From: 0, Port: 5}, 0, violated(1, "000", []int{0}, []int{1, 2, -2}, 5)},
		{detourNet, impl.Property{Kind: impl.PrNever, From: 0, Port: -1}, 0, violated(1, "000", []int{0}, []int{1, 2, -2}, 0)},
		{detourNet, way, 0, violated(2, "000", []int{1}, []int{-1, 2, -2}, 5)},
		{detourNet, impl.Property{Kind: impl.PrWay, From: 0, Port: 5}, 2, holds(21)},
		{detourNet, impl.Property{Kind: impl.PrWay, From: 1, Port: -1, Way: 1}, 2, holds(21)},
		{detourNet, own, 0, violated(2, "000", []int{1}, []int{-1, 2, -2}, 5)},
		{detourNet, impl.Property{Kind: impl.PrOwn, From: 1, Port: -1}, 0, holds(3)},
		{detourNet, impl.Property{Kind: impl.PrOwn, From: 2, Port: -1}, 2, holds(21)},
		{detourNet, impl.Property{Kind: impl.PrOwn, From: 1, Port: -1}, 1, violated(8, "010", []int{1}, []int{-1, 0, -2}, 0)},
		{detourNet + "external b\n", impl.Property{Kind: impl.PrNever, From: 2, Port: 9}, 0, violated(1, "000", []int{0, 0}, []int{1, 2, -2}, 9)},
	})
}

// TestVerifyAnnouncements: the first external counts more than the second, and 1 comes ahead of 2.
func TestVerifyAnnouncements(t *testing.T) {
	reach := impl.Property{Kind: impl.PrReach, From: 1, Port: -1}
	never := impl.Property{Kind: impl.PrNever, From: 1, Port: 2}
	last := impl.Property{Kind: impl.PrNever, From: 0, Port: 15}
	checkVerdicts(t, []verdictRow{
		{endsNet, reach, 0, violated(1, "00", []int{0, 0}, []int{-3, -3, -3}, 0)},
		{endsNet, never, 0, violated(2, "00", []int{0, 1}, []int{1, 2, -1}, 2)},
		{endsNet + "import b from c deny\n", never, 0, violated(4, "00", []int{1, 0}, []int{-1, 0, 1}, 2)},
		{endsNet + "import b from c if plain deny\n", never, 0, violated(3, "00", []int{0, 2}, []int{1, 2, -1}, 2)},
		{endsNet + "import b from c deny\nimport b from a if plain deny\n", never, 0, violated(7, "00", []int{2, 0}, []int{-1, 0, 1}, 2)},
		{endsNet + "import b from c deny\nimport b from a deny\n", never, 0, holds(9)},
		{endsNet + "import b from c deny\nimport b from a deny\n", never, 1, holds(27)},
		{endsNet + "import b from c deny\nimport b from a deny\n", never, 2, holds(36)},
		{endsNet, last, 0, violated(2, "00", []int{0, 1}, []int{1, 2, -1}, 15)},
		{endsNet + "import a from b deny\n", last, 0, violated(4, "00", []int{1, 0}, []int{-1, 0, 1}, 15)},
		{endsNet + "origin b\n", impl.Property{Kind: impl.PrOwn, From: 0, Port: -1}, 0, holds(9)},
		{endsNet + "origin b\n", impl.Property{Kind: impl.PrOwn, From: 0, Port: -1}, 1, violated(19, "10", []int{0, 0}, []int{-3, -2, 1}, 0)},
		{endsNet + "origin b\n", impl.Property{Kind: impl.PrOwn, From: 2, Port: -1}, 1, violated(10, "01", []int{0, 0}, []int{1, -2, -3}, 0)},
		// All announcements come ahead of the first link that is down.
		{endsNet + "origin b\nimport a from b pref 99\n", impl.Property{Kind: impl.PrOwn, From: 0, Port: -1}, 1, violated(4, "00", []int{1, 0}, []int{-1, -2, 1}, 0)},
	})
}

// TestVerifyLinks: fewer first, and of as many those with a later link.
func TestVerifyLinks(t *testing.T) {
	const ring = "router a\nrouter b\nrouter c\nrouter d\nlink a b\nlink b c\nlink c d\nlink d a\norigin a\n"
	reach := func(from int) impl.Property { return impl.Property{Kind: impl.PrReach, From: from, Port: 6} }
	way := func(from, way int) impl.Property {
		return impl.Property{Kind: impl.PrWay, From: from, Port: 6, Way: way}
	}
	checkVerdicts(t, []verdictRow{
		{ring, reach(2), 1, holds(5)},
		{ring, reach(2), 2, violated(7, "0101", nil, []int{-2, 0, -3, -3}, 6)},
		{ring, reach(1), 2, violated(9, "1001", nil, []int{-2, -3, -3, -3}, 6)},
		{ring, reach(3), 2, violated(6, "0011", nil, []int{-2, 0, 1, -3}, 6)},
		{ring, way(2, 1), 0, holds(1)},
		{ring, way(2, 1), 1, violated(4, "0100", nil, []int{-2, 0, 3, 0}, 6)},
		{ring, way(3, 3), 2, holds(11)},
		{ring, way(1, 2), 0, violated(1, "0000", nil, []int{-2, 0, 1, 0}, 6)},
		{ring, impl.Property{Kind: impl.PrNever, From: 3, Port: 6}, 1, violated(1, "0000", nil, []int{-2, 0, 1, 0}, 6)},
		{ring + "filter d to a port 6 6\n", reach(3), 1, violated(1, "0000", nil, []int{-2, 0, 1, 0}, 6)},
		{ring + "filter d to a port 6 6\n", reach(2), 1, violated(4, "0100", nil, []int{-2, 0, 3, 0}, 6)},
		{ring + "filter d to c port 6 6\n", reach(3), 1, violated(2, "0001", nil, []int{-2, 0, 1, 2}, 6)},
		{ring + "filter b to c port 6 6\n", reach(1), 1, violated(5, "1000", nil, []int{-2, 2, 3, 0}, 6)},
		{rowNet, reach(3), 1, violated(2, "001", nil, []int{-2, 0, 1, -3}, 6)},
		{rowNet, reach(2), 1, violated(3, "010", nil, []int{-2, 0, -3, -3}, 6)},
		{rowNet, reach(1), 1, violated(4, "100", nil, []int{-2, -3, -3, -3}, 6)},
		{rowNet, reach(0), 2, holds(7)},
	})
}

// TestVerifyStates has networks with no stable state, and with several.
func TestVerifyStates(t *testing.T) {
	way := func(from, way int) impl.Property {
		return impl.Property{Kind: impl.PrWay, From: from, Port: 0, Way: way}
	}
	reach := impl.Property{Kind: impl.PrReach, From: 2, Port: -1}
	checkVerdicts(t, []verdictRow{
		{roundNet, way(1, 2), 0, holds(0)},
		{roundNet, impl.Property{Kind: impl.PrNever, From: 0, Port: -1}, 0, holds(0)},
		{roundNet, way(1, 2), 1, violated(1, "000001", nil, []int{-2, 0, 3, 0}, 0)},
		{roundNet, way(2, 3), 1, violated(2, "000010", nil, []int{-2, 2, 0, 0}, 0)},
		{eitherNet, way(1, 2), 0, violated(1, "000", nil, []int{-2, 0, 1}, 0)},
		{eitherNet, way(2, 1), 0, violated(2, "000", nil, []int{-2, 2, 0}, 0)},
		{eitherNet, way(2, 2), 0, holds(2)},
		{eitherNet, way(2, 0), 1, holds(5)},
		// A port of the first state comes ahead of a lesser one of the second.
		{eitherNet + "filter c to b port 9 9\nfilter c to a port 2 2\n", reach, 0, violated(1, "000", nil, []int{-2, 0, 1}, 9)},
		{eitherNet + "filter c to a port 2 2\n", reach, 0, violated(2, "000", nil, []int{-2, 2, 0}, 2)},
		{eitherNet + "filter b to c port 2 2\n", reach, 0, holds(2)},
		{eitherNet + "filter b to a port 11 15\nfilter b to a port 12 12\n", reach, 0, violated(1, "000", nil, []int{-2, 0, 1}, 11)},
	})
}

func TestVerifyOneRouter(t *testing.T) {
	for k := range impl.MaxDown + 1 {
		for kind, want := range map[int]impl.Verdict{
			impl.PrReach: violated(1, "", nil, []int{-3}, 0), impl.PrNever: holds(1), impl.PrWay: holds(1), impl.PrOwn: violated(1, "", nil, []int{-3}, 0),
		} {
			checkVerify(t, netOf(t, "router a"), impl.Property{Kind: kind, Port: -1}, k, want)
		}
		for kind, want := range map[int]impl.Verdict{
			impl.PrReach: holds(1), impl.PrNever: violated(1, "", nil, []int{-2}, 15), impl.PrWay: holds(1), impl.PrOwn: holds(1),
		} {
			checkVerify(t, netOf(t, "router a\norigin a"), impl.Property{Kind: kind, Port: 15}, k, want)
		}
		for kind, want := range map[int]impl.Verdict{
			impl.PrReach: violated(1, "", []int{0}, []int{-3}, 0), impl.PrNever: violated(2, "", []int{1}, []int{-1}, 0), impl.PrWay: holds(3), impl.PrOwn: violated(1, "", []int{0}, []int{-3}, 0),
		} {
			checkVerify(t, netOf(t, "router a\nexternal a"), impl.Property{Kind: kind, Port: 0}, k, want)
		}
	}
}

// slowDownLists are all flags of so many links, those with fewer set first; of as many, a text with a 0 comes ahead of one with a 1.
func slowDownLists(links, k int) [][]bool {
	var texts []string
	for number := range 1 << links {
		text := fmt.Sprintf("%0*b", links, number)[:links]
		if ones := strings.Count(text, "1"); ones <= k {
			texts = append(texts, fmt.Sprint(ones)+text)
		}
	}
	slices.Sort(texts)
	var lists [][]bool
	for _, text := range texts {
		lists = append(lists, violated(0, text[1:], nil, nil, 0).Down)
	}
	return lists
}

func slowAnnouncements(externals int) [][]int {
	return [][][]int{
		{nil},
		{{0}, {1}, {2}},
		{{0, 0}, {0, 1}, {0, 2}, {1, 0}, {1, 1}, {1, 2}, {2, 0}, {2, 1}, {2, 2}},
	}[externals]
}

// slowVerify goes through all that is to be looked at, with the stable states told by another.
func slowVerify(n impl.Net, p impl.Property, k int, states func(env []int, down []bool) [][]impl.Route) impl.Verdict {
	count := 0
	for _, down := range slowDownLists(len(n.Links), k) {
		for _, env := range slowAnnouncements(len(n.Externals)) {
			for _, routes := range states(env, down) {
				count++
				for port := range 16 {
					if (p.Port == -1 || p.Port == port) && !slowSatisfied(p, slowWalk(n, routes, port, []int{p.From})) {
						return impl.Verdict{States: count, Down: down, Env: env, Vias: viasOf(routes), Port: port}
					}
				}
			}
		}
	}
	return holds(count)
}

// someProperty is a right one of a network.
func someProperty(r *rand.Rand, n impl.Net) impl.Property {
	p := impl.Property{Kind: 1 + r.Intn(4), From: r.Intn(len(n.Routers)), Port: max(-1, r.Intn(32)-16)}
	if p.Kind == impl.PrWay {
		p.Way = r.Intn(len(n.Routers))
	}
	return p
}

// anyNet is a right network: of any kind, or of one in which routers quarrel.
func anyNet(r *rand.Rand) impl.Net {
	switch r.Intn(5) {
	case 0:
		n := quarrelNet(r)
		n.Externals = someRising(r, len(n.Routers), 2)
		return n
	case 1:
		return ringNet(r)
	case 2:
		return someNet(r)
	}
	return filteredNet(r)
}

// tally counts verdicts, so that a test that tells little is found.
type tally struct{ held, stateless, violated, late, down, announced, port int }

func (c *tally) add(v impl.Verdict) {
	count := func(so bool, number *int) {
		if so {
			*number++
		}
	}
	count(v.Holds, &c.held)
	count(v.Holds && v.States == 0, &c.stateless)
	count(!v.Holds, &c.violated)
	count(!v.Holds && v.States > 9, &c.late)
	count(slices.Contains(v.Down, true), &c.down)
	count(slices.Max(append(v.Env, 0)) > 0, &c.announced)
	count(v.Port > 0, &c.port)
}

func TestVerifyWordByWord(t *testing.T) {
	r := chance()
	var c tally
	for range 1000 {
		n := anyNet(r)
		for range 3 {
			p, k := someProperty(r, n), r.Intn(3)
			want := slowVerify(n, p, k, func(env []int, down []bool) [][]impl.Route {
				states, _ := impl.StableStates(n, env, down)
				return states
			})
			checkVerify(t, n, p, k, want)
			c.add(want)
		}
	}
	if c.held < 500 || c.stateless < 5 || c.violated < 1200 || c.late < 20 || c.down < 100 || c.announced < 50 || c.port < 300 {
		t.Errorf("%+v: the test tells little", c)
	}
}

// TestVerifyByAllVias has stable states found apart from the program, too.
func TestVerifyByAllVias(t *testing.T) {
	r := chance()
	var c tally
	for i := range 400 {
		n := anyNet(r)
		p, k := someProperty(r, n), min(i%3, 1+r.Intn(20)/19)
		if len(n.Routers) == impl.MaxRouters && len(n.Externals) > 0 {
			k = 0
		}
		want := slowVerify(n, p, k, func(env []int, down []bool) [][]impl.Route { return slowByVias(n, env, down) })
		checkVerify(t, n, p, k, want)
		c.add(want)
	}
	if c.held < 40 || c.violated < 150 || c.down < 8 || c.announced < 8 || c.port < 40 {
		t.Errorf("%+v: the test tells little", c)
	}
}

// TestFewerLinksDown: what holds with more links down holds with fewer, and what is violated stays so, by the same state.
func TestFewerLinksDown(t *testing.T) {
	r := chance()
	held, more := 0, 0
	for range 2000 {
		n := anyNet(r)
		p := someProperty(r, n)
		few, _ := impl.Verify(n, p, 0)
		for k := 1; k <= impl.MaxDown; k++ {
			many, _ := impl.Verify(n, p, k)
			switch {
			case many.Holds && !few.Holds:
				t.Fatalf("%v of %v holds with %d links down, and not with fewer", p, n, k)
			case many.Holds && many.States < few.States:
				t.Fatalf("%v of %v: %d states with %d links down, %d with fewer", p, n, many.States, k, few.States)
			case !few.Holds && !sameVerdict(many, few):
				t.Fatalf("%v of %v is violated by %v, with %d links down by %v", p, n, few, k, many)
			case many.Holds:
				held++
			case few.Holds:
				more++
			}
			few = many
		}
	}
	if held < 500 || more < 100 {
		t.Errorf("%d hold, %d do with fewer alone: the test tells little", held, more)
	}
}

// TestVerifyHoldsInAll: where nothing is violated no state at all can be had again, and else the first is told.
func TestVerifyHoldsInAll(t *testing.T) {
	r := chance()
	held, told := 0, 0
	for range 150 {
		n := anyNet(r)
		for len(n.Routers) > 3 {
			n = anyNet(r)
		}
		p, k := someProperty(r, n), r.Intn(3)
		v, _ := impl.Verify(n, p, k)
		again := firstReplayed(n, p, k)
		switch {
		case v.Holds && again != nil:
			t.Fatalf("Verify(%v, %v, %d) holds, and is violated by %v", n, p, k, *again)
		case v.Holds:
			held++
		default:
			told++
			again.States = v.States
			if !sameVerdict(v, *again) {
				t.Fatalf("Verify(%v, %v, %d) = %v, and the first that can be had again is %v", n, p, k, v, *again)
			}
		}
	}
	if held < 20 || told < 50 {
		t.Errorf("%d hold, %d are violated: the test tells little", held, told)
	}
}

// firstReplayed tries all Vias and all ports.
func firstReplayed(n impl.Net, p impl.Property, k int) *impl.Verdict {
	var first *impl.Verdict
	for _, down := range slowDownLists(len(n.Links), k) {
		for _, env := range slowAnnouncements(len(n.Externals)) {
			allVias(len(n.Routers), func(vias []int) {
				for port := range 16 {
					v := impl.Verdict{Down: down, Env: env, Vias: vias, Port: port}
					if yes, _ := impl.Replay(n, p, k, v); yes && first == nil {
						v.Vias = slices.Clone(vias)
						first = &v
					}
				}
			})
			if first != nil {
				return first
			}
		}
	}
	return nil
}
