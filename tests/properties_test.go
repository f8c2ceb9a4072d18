package tests

import (
	"slices"
	"testing"

	"loop.example/g00159/impl"
)

// Tests of promise 9: properties, which are right, and of which walks they are so.

func checkProperty(t *testing.T, n impl.Net, p impl.Property, want bool) {
	t.Helper()
	if impl.PropertyOK(n, p) != want {
		t.Errorf("PropertyOK(%s, %v) is %v", brief(n), p, !want)
	}
}

func TestRightProperties(t *testing.T) {
	n := netOf(t, rowNet)
	for kind := impl.PrReach; kind <= impl.PrOwn; kind++ {
		for from := range 4 {
			for port := -1; port <= impl.MaxPort; port++ {
				checkProperty(t, n, impl.Property{Kind: kind, From: from, Port: port}, true)
			}
			for way := 1; way < 4; way++ {
				checkProperty(t, n, impl.Property{Kind: kind, From: from, Port: 3, Way: way}, kind == impl.PrWay)
			}
		}
	}
	alone := impl.Net{Routers: []string{"a"}}
	for kind := impl.PrReach; kind <= impl.PrOwn; kind++ {
		checkProperty(t, alone, impl.Property{Kind: kind, Port: -1}, true)
		checkProperty(t, alone, impl.Property{Kind: kind, From: 1}, false)
		checkProperty(t, alone, impl.Property{Kind: kind, Way: 1}, false)
	}
}

// wrongProperties are so of a network of four routers.
func wrongProperties() []impl.Property {
	var list []impl.Property
	for _, number := range append([]int{5, 6}, oddly...) {
		list = append(list, impl.Property{Kind: number})
	}
	list = append(list, impl.Property{}, impl.Property{Port: -1}, impl.Property{Way: 1})
	for kind := impl.PrReach; kind <= impl.PrOwn; kind++ {
		for _, number := range append([]int{4, 5}, oddly...) {
			list = append(list, impl.Property{Kind: kind, From: number}, impl.Property{Kind: kind, Way: number})
		}
		for _, number := range append([]int{16, 17}, oddly...) {
			if number != -1 {
				list = append(list, impl.Property{Kind: kind, Port: number})
			}
		}
		if kind != impl.PrWay {
			list = append(list, impl.Property{Kind: kind, Way: 1}, impl.Property{Kind: kind, Way: 2}, impl.Property{Kind: kind, Way: 3})
		}
	}
	return list
}

func TestWrongProperties(t *testing.T) {
	n := netOf(t, rowNet)
	for _, p := range wrongProperties() {
		checkProperty(t, n, p, false)
		checkProperty(t, impl.Net{}, p, false)
	}
	small := smallNet()
	checkProperty(t, small, impl.Property{Kind: impl.PrWay, From: 2, Way: 2}, true)
	checkProperty(t, small, impl.Property{Kind: impl.PrWay, From: 3}, false)
	checkProperty(t, small, impl.Property{Kind: impl.PrWay, Way: 3}, false)
	right := impl.Property{Kind: impl.PrReach, Port: -1}
	r := chance()
	for range 2000 {
		n := spoilt(r, someNet(r))
		checkProperty(t, n, right, slowNetOK(n))
	}
	checkProperty(t, impl.Net{}, right, false)
}

// slowProperty tells which properties are right, one sentence behind the other.
func slowProperty(n impl.Net, p impl.Property) bool {
	if !slowNetOK(n) {
		return false
	}
	numbers := []int{0, 1, 2, 3}[:len(n.Routers)]
	ports := []int{-1, 0, 1, 2, 3, 4, 5, 6, 7, 8, 9, 10, 11, 12, 13, 14, 15}
	if !slices.Contains([]int{1, 2, 3, 4}, p.Kind) || !slices.Contains(numbers, p.From) || !slices.Contains(ports, p.Port) {
		return false
	}
	if p.Kind == 3 {
		return slices.Contains(numbers, p.Way)
	}
	return p.Way == 0
}

func TestPropertiesAreRightAsTold(t *testing.T) {
	r := chance()
	right := 0
	for range 60000 {
		n := someNet(r)
		if r.Intn(8) == 0 {
			n = spoilt(r, n)
		}
		p := impl.Property{Kind: 1 + r.Intn(4), From: r.Intn(4), Port: r.Intn(18) - 1, Way: max(0, r.Intn(8)-4)}
		if r.Intn(3) == 0 {
			numbers := []*int{&p.Kind, &p.From, &p.Port, &p.Way}
			*numbers[r.Intn(4)] = oddNumber(r)
		}
		want := slowProperty(n, p)
		checkProperty(t, n, p, want)
		if want {
			right++
		}
		if t.Failed() {
			return
		}
	}
	if right < 5000 || right > 50000 {
		t.Errorf("%d are right: the test tells little", right)
	}
}

func checkSatisfied(t *testing.T, n impl.Net, p impl.Property, w impl.Walk, want bool) {
	t.Helper()
	if got, code := impl.Satisfied(n, p, w); code != 0 || got != want {
		t.Fatalf("Satisfied(%v, %s) = %v, %d", p, brief(w), got, code)
	}
}

func TestSatisfied(t *testing.T) {
	n := netOf(t, rowNet)
	for _, row := range []struct {
		kind int
		want [4]bool // of OcOwn, OcOut, OcNoRoute and OcFilter
	}{
		{impl.PrReach, [4]bool{true, true, false, false}},
		{impl.PrNever, [4]bool{false, false, true, true}},
		{impl.PrWay, [4]bool{false, false, true, true}}, // of a packet that has not been there
		{impl.PrOwn, [4]bool{true, false, false, false}},
	} {
		for i, want := range row.want {
			for _, path := range [][]int{nil, {}, {1}, {3, 2, 1}, {1, 2, 1, 2, 1}, {4}, {-1}} {
				for port := -1; port <= impl.MaxPort; port++ {
					checkSatisfied(t, n, impl.Property{Kind: row.kind, From: 1, Port: port}, impl.Walk{Outcome: i + 1, Path: path}, want)
				}
			}
		}
	}
}

func TestSatisfiedByTheWay(t *testing.T) {
	n := netOf(t, rowNet)
	for _, path := range [][]int{{0}, {1}, {2}, {3}, {0, 1}, {1, 0}, {3, 2, 1, 0}, {0, 1, 0, 1, 0}, {1, 2, 3}, nil, {-3, 4, 5}, append(repeated(7, 100000), 2)} {
		for way := range 4 {
			p := impl.Property{Kind: impl.PrWay, From: 0, Port: 4, Way: way}
			hasBeen := slices.Contains(path, way)
			checkSatisfied(t, n, p, impl.Walk{Outcome: impl.OcOwn, Path: path}, hasBeen)
			checkSatisfied(t, n, p, impl.Walk{Outcome: impl.OcOut, Path: path}, hasBeen)
			checkSatisfied(t, n, p, impl.Walk{Outcome: impl.OcNoRoute, Path: path}, true)
			checkSatisfied(t, n, p, impl.Walk{Outcome: impl.OcFilter, Path: path}, true)
		}
	}
}

func TestSatisfiedFaults(t *testing.T) {
	n := netOf(t, rowNet)
	bad := func(n impl.Net, p impl.Property, w impl.Walk) {
		t.Helper()
		if yes, code := impl.Satisfied(n, p, w); yes || code != impl.ErrBad {
			t.Errorf("Satisfied(%s, %v, %v) = %v, %d", brief(n), p, w, yes, code)
		}
	}
	for _, p := range wrongProperties() {
		for outcome := impl.OcOwn; outcome <= impl.OcFilter; outcome++ {
			bad(n, p, impl.Walk{Outcome: outcome, Path: []int{0}})
		}
		bad(n, p, impl.Walk{})
	}
	for kind := impl.PrReach; kind <= impl.PrOwn; kind++ {
		right := impl.Property{Kind: kind, Port: 3}
		for _, number := range append([]int{0, 5, 6}, oddly...) {
			bad(n, right, impl.Walk{Outcome: number, Path: []int{0}})
		}
		bad(impl.Net{}, right, impl.Walk{Outcome: impl.OcOwn, Path: []int{0}})
		bad(impl.Net{Routers: []string{"a", "a"}}, right, impl.Walk{Outcome: impl.OcFilter, Path: []int{0}})
	}
}

// slowSatisfied tells of a walk whether a property is so, one sentence behind the other.
func slowSatisfied(p impl.Property, w impl.Walk) bool {
	arrive := map[int]int{impl.OcOwn: 1, impl.OcOut: 1}[w.Outcome] == 1
	been := 0
	for _, router := range w.Path {
		if router == p.Way {
			been++
		}
	}
	return p.Kind == 1 && arrive || p.Kind == 2 && !arrive || p.Kind == 3 && (!arrive || been > 0) || p.Kind == 4 && w.Outcome == 1
}

func TestSatisfiedWordByWord(t *testing.T) {
	r := chance()
	so := 0
	for range 40000 {
		n := someNet(r)
		p := impl.Property{Kind: 1 + r.Intn(4), From: r.Intn(len(n.Routers)), Port: r.Intn(17) - 1}
		if p.Kind == impl.PrWay {
			p.Way = r.Intn(len(n.Routers))
		}
		w := impl.Walk{Outcome: 1 + r.Intn(4)}
		for range r.Intn(6) {
			w.Path = append(w.Path, oddNumber(r))
		}
		want := slowSatisfied(p, w)
		checkSatisfied(t, n, p, w, want)
		if want {
			so++
		}
	}
	if so < 10000 || so > 30000 {
		t.Errorf("%d are so: the test tells little", so)
	}
}
