package tests

import (
	"math"
	"math/rand"
	"slices"
	"strconv"
	"strings"
	"testing"

	"loop.example/g00159/impl"
)

// Tests of promise 7: networks, which are right, and their neighbours.

// wholeNet has as much of everything as a network may have, each deed of an import with each When, and numbers at their bounds.
func wholeNet() impl.Net {
	n := impl.Net{
		Routers:   []string{"a", "_b9", "C", strings.Repeat("d", impl.MaxName)},
		Links:     []impl.Link{{A: 0, B: 1, Cost: 1}, {A: 2, B: 1, Cost: 100}, {A: 3, B: 0, Cost: 7}, {A: 1, B: 3, Cost: 99}, {A: 2, B: 0, Cost: 2}, {A: 2, B: 3, Cost: 50}},
		Origins:   []int{0, 1, 2, 3},
		Externals: []int{1, 3},
		Filters: []impl.Filter{
			{At: 0, To: 1, Low: 0, High: 15}, {At: 1, To: 0, Low: 0, High: 0}, {At: 3, To: 2, Low: 15, High: 15},
			{At: 2, To: 3, Low: 3, High: 4}, {At: 0, To: 1, Low: 0, High: 15}, {At: 1, To: 3, Low: 9, High: 10},
		},
	}
	for do := impl.DoDeny; do <= impl.DoClear; do++ {
		for when := impl.WhAlways; when <= impl.WhPlain; when++ {
			i := impl.Import{At: do - 1, From: (do + when) % 4, When: when, Do: do}
			if do == impl.DoPref {
				i.N = []int{0, 1000, 100}[when]
			}
			n.Imports = append(n.Imports, i)
		}
	}
	return n
}

// smallNet has three routers in a row, and nothing more.
func smallNet() impl.Net {
	return impl.Net{Routers: []string{"a", "b", "c"}, Links: []impl.Link{{A: 0, B: 1, Cost: 1}, {A: 2, B: 1, Cost: 5}}}
}

func sameNet(a, b impl.Net) bool {
	return slices.Equal(a.Routers, b.Routers) && slices.Equal(a.Links, b.Links) && slices.Equal(a.Origins, b.Origins) &&
		slices.Equal(a.Externals, b.Externals) && slices.Equal(a.Imports, b.Imports) && slices.Equal(a.Filters, b.Filters)
}

func isZeroNet(n impl.Net) bool {
	return sameNet(n, impl.Net{})
}

func copyOfNet(n impl.Net) impl.Net {
	return impl.Net{
		Routers: slices.Clone(n.Routers), Links: slices.Clone(n.Links), Origins: slices.Clone(n.Origins),
		Externals: slices.Clone(n.Externals), Imports: slices.Clone(n.Imports), Filters: slices.Clone(n.Filters),
	}
}

// checkNet holds all calls that take a network against whether it is right.
func checkNet(t *testing.T, who string, n impl.Net, want bool) {
	t.Helper()
	if impl.NetOK(n) != want {
		t.Errorf("NetOK of %s is %v: %s", who, !want, brief(n))
	}
	text, code := impl.NetText(n)
	list, listCode := impl.Neighbours(n, 0, make([]bool, min(len(n.Links), impl.MaxList)))
	if want && (code != 0 || text == "" || listCode != 0) {
		t.Errorf("%s: NetText tells %q, code %d, Neighbours code %d", who, text, code, listCode)
	}
	if !want && (code != impl.ErrBad || text != "" || listCode != impl.ErrBad || len(list) != 0) {
		t.Errorf("%s: NetText tells %q, code %d, Neighbours %v, code %d", who, text, code, list, listCode)
	}
}

func TestRightNets(t *testing.T) {
	checkNet(t, "the whole network", wholeNet(), true)
	checkNet(t, "the small network", smallNet(), true)
	for count := 1; count <= impl.MaxRouters; count++ {
		checkNet(t, "routers alone", impl.Net{Routers: []string{"d", "c", "b", "a"}[:count]}, true)
	}
	for _, name := range []string{"a", "A", "_", "z9", "router", "cost", "if", strings.Repeat("_", impl.MaxName)} {
		checkNet(t, "one name", impl.Net{Routers: []string{name}, Origins: []int{0}, Externals: []int{0}}, true)
	}
	// Names that differ in case, or of which one is the beginning of another, are not alike.
	checkNet(t, "names that are near", impl.Net{Routers: []string{"a", "A", "aa", "a_"}}, true)
	whole := wholeNet()
	for count := range len(whole.Imports) + 1 {
		n := whole
		n.Imports, n.Filters = whole.Imports[:count], whole.Filters[:min(count, len(whole.Filters))]
		checkNet(t, "some imports and filters", n, true)
	}
	for _, list := range [][]int{nil, {}, {0}, {3}, {0, 1}, {0, 3}, {2, 3}} {
		n := whole
		n.Origins, n.Externals = list, list
		checkNet(t, "some origins and externals", n, true)
	}
	n := smallNet()
	for range impl.MaxImports {
		n.Imports = append(n.Imports, impl.Import{At: 2, From: 1, Do: impl.DoDeny})
	}
	for range impl.MaxFilters {
		n.Filters = append(n.Filters, impl.Filter{At: 1, To: 2})
	}
	checkNet(t, "imports and filters that are alike", n, true)
}

// oddly are numbers beyond what any number of a network may be.
var oddly = []int{-1, -2, 1001, 1 << 16, 1 << 32, 1<<32 + 1, -1 << 32, math.MaxInt, math.MinInt, math.MinInt + 1}

func TestWrongRouters(t *testing.T) {
	checkNet(t, "nothing", impl.Net{}, false)
	checkNet(t, "no router", impl.Net{Routers: []string{}}, false)
	checkNet(t, "five routers", impl.Net{Routers: []string{"a", "b", "c", "d", "e"}}, false)
	checkNet(t, "many routers", impl.Net{Routers: make([]string, 100000)}, false)
	for _, name := range []string{"", "9", "a b", "a-b", "é", "a\n", " a", "#a", strings.Repeat("x", impl.MaxName+1), strings.Repeat("x", 1<<20)} {
		for place := range impl.MaxRouters {
			n := wholeNet()
			n.Routers[place] = name
			checkNet(t, "a name that is none", n, false)
		}
	}
	for i := range impl.MaxRouters {
		for j := range i {
			n := wholeNet()
			n.Routers[i] = n.Routers[j]
			checkNet(t, "two names alike", n, false)
		}
	}
}

func TestWrongLinks(t *testing.T) {
	for place := range impl.MaxLinks {
		for _, number := range append([]int{4, 5}, oddly...) {
			n, m := wholeNet(), wholeNet()
			n.Links[place].A, m.Links[place].B = number, number
			checkNet(t, "a link from no router", n, false)
			checkNet(t, "a link to no router", m, false)
		}
		for _, cost := range append([]int{0, 101}, oddly...) {
			n := wholeNet()
			n.Links[place].Cost = cost
			checkNet(t, "a wrong cost", n, false)
		}
		for other := range place {
			n, m := wholeNet(), wholeNet()
			link := n.Links[other]
			n.Links[place] = impl.Link{A: link.A, B: link.B, Cost: 33}
			m.Links[place] = impl.Link{A: link.B, B: link.A, Cost: 34}
			n.Imports, n.Filters, m.Imports, m.Filters = nil, nil, nil, nil
			checkNet(t, "two links of the same two", n, false)
			checkNet(t, "two links of the same two, the other way round", m, false)
		}
	}
	for router := range 3 {
		n := smallNet()
		n.Links = append(n.Links, impl.Link{A: router, B: router, Cost: 1})
		checkNet(t, "a link of one router", n, false)
	}
	n := wholeNet()
	n.Links = append(n.Links, impl.Link{A: 0, B: 1, Cost: 1})
	checkNet(t, "seven links", n, false)
	n.Links = make([]impl.Link, 100000)
	checkNet(t, "many links", n, false)
	checkNet(t, "a link from the only router", impl.Net{Routers: []string{"a"}, Links: []impl.Link{{A: 0, B: 1, Cost: 1}}}, false)
}

func TestWrongOriginsAndExternals(t *testing.T) {
	lists := [][]int{{4}, {0, 4}, {0, 0}, {1, 0}, {3, 2}, {2, 2}, {-1, 0}, {0, -1}, {math.MaxInt, math.MinInt}, {0, 1, 2, 3, 4}, {0, 1, 3, 2}, {0, 2, 2, 3}, repeated(0, 100000)}
	for _, number := range oddly {
		lists = append(lists, []int{number}, []int{0, number})
	}
	for _, list := range lists {
		n, m := wholeNet(), wholeNet()
		n.Origins, m.Externals = list, list
		checkNet(t, "wrong origins", n, false)
		checkNet(t, "wrong externals", m, false)
	}
	for _, list := range [][]int{{0, 1, 2}, {1, 2, 3}, {0, 1, 2, 3}} {
		n := wholeNet()
		n.Externals = list
		checkNet(t, "more than two externals", n, false)
	}
	checkNet(t, "an origin that is no router", impl.Net{Routers: []string{"a"}, Origins: []int{1}}, false)
	checkNet(t, "an external that is no router", impl.Net{Routers: []string{"a"}, Externals: []int{1}}, false)
}

func TestWrongImports(t *testing.T) {
	right := impl.Import{At: 0, From: 1, Do: impl.DoPref, N: 5}
	var wrong []impl.Import
	with := func(change func(*impl.Import)) {
		i := right
		change(&i)
		wrong = append(wrong, i)
	}
	for _, number := range oddly {
		with(func(i *impl.Import) { i.At = number })
		with(func(i *impl.Import) { i.From = number })
		with(func(i *impl.Import) { i.At, i.From = number, number })
		with(func(i *impl.Import) { i.When = number })
		with(func(i *impl.Import) { i.Do = number })
		with(func(i *impl.Import) { i.N = number })
	}
	with(func(i *impl.Import) { i.When = 3 })
	with(func(i *impl.Import) { i.Do, i.N = 0, 0 })
	with(func(i *impl.Import) { i.Do, i.N = 5, 0 })
	for _, do := range []int{impl.DoDeny, impl.DoMark, impl.DoClear} {
		for _, number := range []int{1, -1, 1000, math.MinInt, math.MaxInt} {
			with(func(i *impl.Import) { i.Do, i.N = do, number })
		}
	}
	// Of the three in a row, the first and the last have no link; nor has one with itself.
	for _, pair := range [][2]int{{0, 2}, {2, 0}, {0, 0}, {1, 1}, {2, 2}, {0, 3}, {3, 0}, {3, 3}} {
		with(func(i *impl.Import) { i.At, i.From = pair[0], pair[1] })
	}
	for _, i := range wrong {
		n, m := smallNet(), smallNet()
		n.Imports, m.Imports = []impl.Import{i}, []impl.Import{right, right, i, right}
		checkNet(t, "a wrong import", n, false)
		checkNet(t, "a wrong import among others", m, false)
	}
	n := wholeNet()
	n.Imports = append(n.Imports, n.Imports[0])
	checkNet(t, "thirteen imports", n, false)
	n = smallNet()
	n.Imports = slices.Repeat([]impl.Import{right}, 100000)
	checkNet(t, "many imports", n, false)
	checkNet(t, "an import of one router", impl.Net{Routers: []string{"a"}, Imports: []impl.Import{{Do: impl.DoDeny}}}, false)
}

func TestWrongFilters(t *testing.T) {
	right := impl.Filter{At: 1, To: 0, Low: 3, High: 9}
	wrong := []impl.Filter{
		{At: 1, To: 0, Low: 4, High: 3}, {At: 1, To: 0, Low: 15, High: 0}, {At: 1, To: 0, Low: 0, High: 16}, {At: 1, To: 0, Low: 16, High: 16}, {At: 1, To: 0, Low: 16, High: 15},
		{At: 1, To: 0, Low: -1, High: 0}, {At: 1, To: 0, Low: -1, High: -1}, {At: 1, To: 0, Low: 0, High: -1},
		{At: 0, To: 2, Low: 3, High: 9}, {At: 2, To: 0, Low: 3, High: 9}, {At: 0, To: 0, Low: 3, High: 9}, {At: 1, To: 1, Low: 3, High: 9}, {At: 1, To: 3, Low: 3, High: 9}, {At: 3, To: 1, Low: 3, High: 9},
	}
	for _, number := range oddly {
		wrong = append(wrong,
			impl.Filter{At: number, To: 0, Low: 3, High: 9}, impl.Filter{At: 1, To: number, Low: 3, High: 9}, impl.Filter{At: number, To: number, Low: 3, High: 9},
			impl.Filter{At: 1, To: 0, Low: number, High: 9}, impl.Filter{At: 1, To: 0, Low: 3, High: number}, impl.Filter{At: 1, To: 0, Low: number, High: number})
	}
	for _, f := range wrong {
		n, m := smallNet(), smallNet()
		n.Filters, m.Filters = []impl.Filter{f}, []impl.Filter{right, f, right}
		checkNet(t, "a wrong filter", n, false)
		checkNet(t, "a wrong filter among others", m, false)
	}
	n := wholeNet()
	n.Filters = append(n.Filters, n.Filters[0])
	checkNet(t, "seven filters", n, false)
	n = smallNet()
	n.Filters = slices.Repeat([]impl.Filter{right}, 100000)
	checkNet(t, "many filters", n, false)
	checkNet(t, "a filter of one router", impl.Net{Routers: []string{"a"}, Filters: []impl.Filter{{}}}, false)
}

// slowNetOK says what chapter 7 does, one sentence behind the other, with sets of pairs.
func slowNetOK(n impl.Net) bool {
	between := func(number, low, high int) bool { return number >= low && number <= high }
	last := len(n.Routers) - 1
	if !between(len(n.Routers), 1, 4) || len(n.Links) > 6 || len(n.Externals) > 2 || len(n.Imports) > 12 || len(n.Filters) > 6 {
		return false
	}
	names := map[string]bool{}
	for _, name := range n.Routers {
		if !impl.NameOK(name) || names[name] {
			return false
		}
		names[name] = true
	}
	joined := map[[2]int]bool{}
	for _, l := range n.Links {
		if !between(l.A, 0, last) || !between(l.B, 0, last) || l.A == l.B || !between(l.Cost, 1, 100) || joined[[2]int{l.A, l.B}] {
			return false
		}
		joined[[2]int{l.A, l.B}], joined[[2]int{l.B, l.A}] = true, true
	}
	for _, list := range [][]int{n.Origins, n.Externals} {
		for i, router := range list {
			if !between(router, 0, last) || i > 0 && router <= list[i-1] {
				return false
			}
		}
	}
	for _, i := range n.Imports {
		if !joined[[2]int{i.At, i.From}] || !between(i.When, 0, 2) || !between(i.Do, 1, 4) || i.Do != 2 && i.N != 0 || !between(i.N, 0, 1000) {
			return false
		}
	}
	for _, f := range n.Filters {
		if !joined[[2]int{f.At, f.To}] || !between(f.Low, 0, 15) || !between(f.High, 0, 15) || f.High < f.Low {
			return false
		}
	}
	return true
}

// someRising is a list that rises, of at most so many of the numbers below another.
func someRising(r *rand.Rand, below, most int) []int {
	list := r.Perm(below)[:r.Intn(min(below, most)+1)]
	slices.Sort(list)
	return list
}

func someDeed(r *rand.Rand) impl.Import {
	i := impl.Import{When: r.Intn(3), Do: 1 + r.Intn(4)}
	if i.Do == impl.DoPref {
		i.N = r.Intn(impl.MaxPref + 1)
	}
	return i
}

// someNet is right.
func someNet(r *rand.Rand) impl.Net {
	var n impl.Net
	for i := range 1 + r.Intn(impl.MaxRouters) {
		n.Routers = append(n.Routers, []string{"r", "router", "_", "R"}[r.Intn(4)]+strconv.Itoa(i))
	}
	count := len(n.Routers)
	for a := range count {
		for b := range a {
			link := impl.Link{A: a, B: b, Cost: 1 + r.Intn(impl.MaxCost)}
			if r.Intn(2) == 0 {
				link.A, link.B = b, a
			}
			if r.Intn(4) > 0 {
				n.Links = append(n.Links, link)
			}
		}
	}
	r.Shuffle(len(n.Links), func(i, j int) { n.Links[i], n.Links[j] = n.Links[j], n.Links[i] })
	n.Origins, n.Externals = someRising(r, count, impl.MaxRouters), someRising(r, count, 2)
	if len(n.Links) == 0 {
		return n
	}
	for range r.Intn(impl.MaxImports + 1) {
		l, i := n.Links[r.Intn(len(n.Links))], someDeed(r)
		i.At, i.From = l.B, l.A
		if r.Intn(2) == 0 {
			i.At, i.From = l.A, l.B
		}
		n.Imports = append(n.Imports, i)
	}
	for range r.Intn(impl.MaxFilters + 1) {
		l, low := n.Links[r.Intn(len(n.Links))], r.Intn(impl.MaxPort+1)
		f := impl.Filter{At: l.A, To: l.B, Low: low, High: low + r.Intn(impl.MaxPort+1-low)}
		if r.Intn(2) == 0 {
			f.At, f.To = f.To, f.At
		}
		n.Filters = append(n.Filters, f)
	}
	return n
}

// spoilt changes one number, name or list of a network, mostly but not always to something wrong.
func spoilt(r *rand.Rand, n impl.Net) impl.Net {
	n = copyOfNet(n)
	number := r.Intn(18) - 1
	if r.Intn(3) == 0 {
		number = append([]int{100, 101, 1000}, oddly...)[r.Intn(3+len(oddly))]
	}
	set := func(places ...*int) { *places[r.Intn(len(places))] = number }
	switch kind := r.Intn(8); {
	case kind == 0:
		n.Routers[r.Intn(len(n.Routers))] = []string{"", "r0", "R1", "9", "x"}[r.Intn(5)]
	case kind == 1:
		n.Routers = n.Routers[:len(n.Routers)-1]
	case kind == 2 && len(n.Links) > 0:
		l := &n.Links[r.Intn(len(n.Links))]
		set(&l.A, &l.B, &l.Cost)
	case kind == 3 && len(n.Links) > 0:
		n.Links = slices.Delete(n.Links, 0, 1)
	case kind == 4:
		n.Origins = append(n.Origins, number)
	case kind == 5:
		n.Externals = append(n.Externals, number)
	case kind == 6 && len(n.Imports) > 0:
		i := &n.Imports[r.Intn(len(n.Imports))]
		set(&i.At, &i.From, &i.When, &i.Do, &i.N)
	case kind == 7 && len(n.Filters) > 0:
		f := &n.Filters[r.Intn(len(n.Filters))]
		set(&f.At, &f.To, &f.Low, &f.High)
	}
	return n
}

func TestNetsAreRightAsTold(t *testing.T) {
	r := chance()
	right := 0
	for range 60000 {
		n := someNet(r)
		if !slowNetOK(n) {
			t.Fatalf("%v should be right", n)
		}
		for range r.Intn(3) {
			if len(n.Routers) > 0 {
				n = spoilt(r, n)
			}
		}
		want := slowNetOK(n)
		checkNet(t, "any network", n, want)
		if want {
			right++
		}
		if t.Failed() {
			return
		}
	}
	if right < 20000 || right > 50000 {
		t.Errorf("%d are right: the test tells little", right)
	}
}

func checkNeighbours(t *testing.T, n impl.Net, router int, down []bool, want []int) {
	t.Helper()
	if got, code := impl.Neighbours(n, router, down); code != 0 || !sameList(got, want) {
		t.Fatalf("Neighbours(%v, %d, %v) = %v, %d, not %v", n, router, down, got, code, want)
	}
}

func TestNeighbours(t *testing.T) {
	n := smallNet()
	for _, row := range []struct {
		router int
		down   []bool
		want   []int
	}{
		{0, []bool{false, false}, []int{1}}, {1, []bool{false, false}, []int{0, 2}}, {2, []bool{false, false}, []int{1}},
		{0, []bool{true, false}, nil}, {1, []bool{true, false}, []int{2}}, {2, []bool{true, false}, []int{1}},
		{0, []bool{false, true}, []int{1}}, {1, []bool{false, true}, []int{0}}, {2, []bool{false, true}, nil},
		{0, []bool{true, true}, nil}, {1, []bool{true, true}, nil}, {2, []bool{true, true}, nil},
	} {
		checkNeighbours(t, n, row.router, row.down, row.want)
	}
	// Rising, though the links fall, and whichever way round they stand.
	n = impl.Net{Routers: []string{"a", "b", "c", "d"}, Links: []impl.Link{{A: 3, B: 1, Cost: 1}, {A: 1, B: 2, Cost: 1}, {A: 0, B: 1, Cost: 1}}}
	checkNeighbours(t, n, 1, make([]bool, 3), []int{0, 2, 3})
	checkNeighbours(t, n, 1, []bool{false, true, false}, []int{0, 3})
	checkNeighbours(t, n, 3, make([]bool, 3), []int{1})
	checkNeighbours(t, impl.Net{Routers: []string{"a"}}, 0, nil, nil)
	checkNeighbours(t, impl.Net{Routers: []string{"a", "b"}}, 1, []bool{}, nil)
}

func TestNeighboursOfAnyNet(t *testing.T) {
	r := chance()
	for range 20000 {
		n := someNet(r)
		down := valuesOf(r.Intn(64), len(n.Links))
		for router := range n.Routers {
			var want []int
			for i, l := range n.Links {
				if l.A == router && !down[i] {
					want = append(want, l.B)
				}
				if l.B == router && !down[i] {
					want = append(want, l.A)
				}
			}
			slices.Sort(want)
			checkNeighbours(t, n, router, down, want)
		}
	}
}

func TestNeighboursFaults(t *testing.T) {
	n, wrong := smallNet(), smallNet()
	wrong.Links[1].Cost = 0
	two := make([]bool, 2)
	rows := []struct {
		n      impl.Net
		router int
		down   []bool
		code   int
	}{
		{n, 0, nil, impl.ErrRange}, {n, 0, []bool{}, impl.ErrRange}, {n, 0, make([]bool, 1), impl.ErrRange}, {n, 0, make([]bool, 3), impl.ErrRange},
		{n, 3, two, impl.ErrRange}, {n, 3, nil, impl.ErrRange}, {impl.Net{Routers: []string{"a"}}, 1, nil, impl.ErrRange}, {impl.Net{Routers: []string{"a"}}, 0, make([]bool, 1), impl.ErrRange},
		// ErrBad is told ahead of ErrRange.
		{wrong, 0, two, impl.ErrBad}, {wrong, 3, two, impl.ErrBad}, {wrong, 0, nil, impl.ErrBad}, {impl.Net{}, 0, nil, impl.ErrBad}, {impl.Net{}, -1, two, impl.ErrBad},
		// ErrLong is told ahead of all.
		{n, 0, make([]bool, impl.MaxList), impl.ErrRange}, {n, 0, make([]bool, impl.MaxList+1), impl.ErrLong}, {n, -1, make([]bool, impl.MaxList+1), impl.ErrLong},
		{wrong, 0, make([]bool, impl.MaxList), impl.ErrBad}, {wrong, 0, make([]bool, impl.MaxList+1), impl.ErrLong}, {impl.Net{}, 9, make([]bool, impl.MaxList+1), impl.ErrLong},
	}
	for _, number := range oddly {
		rows = append(rows, rows[0])
		rows[len(rows)-1].router, rows[len(rows)-1].down = number, two
	}
	for _, row := range rows {
		if list, code := impl.Neighbours(row.n, row.router, row.down); code != row.code || len(list) != 0 {
			t.Errorf("Neighbours(%v, %d) of %d flags: %v, code %d, not %d", row.n, row.router, len(row.down), list, code, row.code)
		}
	}
}
