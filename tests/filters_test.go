package tests

import (
	"math/rand"
	"testing"

	"loop.example/g00159/impl"
)

// Tests of promises 10 and 12: what a router's filters tell of a port, and the first port that tells two of them apart.

// portOf reads a port from the values of the variables 0 to 3, the lowest bit first.
func portOf(values []bool) int {
	port := 0
	for i, value := range values[:4] {
		if value {
			port += 1 << i
		}
	}
	return port
}

// slowFiltered tells which ports are filtered.
func slowFiltered(n impl.Net, at, to int) [16]bool {
	var filtered [16]bool
	for _, f := range n.Filters {
		for port := f.Low; port <= f.High && f.At == at && f.To == to; port++ {
			filtered[port] = true
		}
	}
	return filtered
}

// slowFilterEx puts the expression together from the last filter back.
func slowFilterEx(filters []impl.Filter, at, to int) impl.Ex {
	if len(filters) == 0 {
		return constant(0)
	}
	ahead, f := slowFilterEx(filters[:len(filters)-1], at, to), filters[len(filters)-1]
	if f.At != at || f.To != to {
		return ahead
	}
	port := slowRow(wordVar(0), 4)
	low, high := slowRow(wordConst(f.Low), 4), slowRow(wordConst(f.High), 4)
	return or(ahead, and(not(slowLess(port, low, 4)), not(slowLess(high, port, 4))))
}

// checkFilterEx looks at the expression Kid by Kid, and at its value of all ports.
func checkFilterEx(t *testing.T, n impl.Net, at, to int) impl.Ex {
	t.Helper()
	want := slowFilterEx(n.Filters, at, to)
	e, code := impl.FilterEx(n, at, to)
	if !impl.ExOK(want) {
		if code != impl.ErrSize || !sameEx(e, impl.Ex{}) {
			t.Fatalf("FilterEx(%v, %d, %d) = %s, %d", n, at, to, brief(e), code)
		}
		return impl.Ex{}
	}
	if code != 0 || !sameEx(e, want) {
		t.Fatalf("FilterEx(%v, %d, %d) = %s, %d, not %s", n, at, to, brief(e), code, brief(want))
	}
	for port, filtered := range slowFiltered(n, at, to) {
		checkValue(t, e, valuesOf(port, 4), filtered)
	}
	return e
}

// pairNet has two routers, and filters from the first to the second, each of two ports.
func pairNet(ports ...int) impl.Net {
	n := impl.Net{Routers: []string{"a", "b"}, Links: []impl.Link{{A: 0, B: 1, Cost: 1}}}
	for i := 0; i < len(ports); i += 2 {
		n.Filters = append(n.Filters, impl.Filter{At: 0, To: 1, Low: ports[i], High: ports[i+1]})
	}
	return n
}

func TestFilterExKidByKid(t *testing.T) {
	no, yes := constant(0), constant(1)
	p := variables(0, 1, 2, 3)
	less := func(a, b, so impl.Ex) impl.Ex { return or(and(not(a), b), and(not(xor(a, b)), so)) }
	// Ports from 5 to 12: 1010 and 0011, the lowest bit first.
	below := less(p[3], no, less(p[2], yes, less(p[1], no, less(p[0], yes, no))))
	above := less(yes, p[3], less(yes, p[2], less(no, p[1], less(no, p[0], no))))
	first := and(not(below), not(above))
	// From 1 to 1.
	second := and(not(less(p[3], no, less(p[2], no, less(p[1], no, less(p[0], yes, no))))), not(less(no, p[3], less(no, p[2], less(no, p[1], less(yes, p[0], no))))))
	for _, row := range []struct {
		n    impl.Net
		want impl.Ex
	}{{pairNet(), no}, {pairNet(5, 12), or(no, first)}, {pairNet(1, 1), or(no, second)}, {pairNet(5, 12, 1, 1), or(or(no, first), second)}, {pairNet(1, 1, 5, 12), or(or(no, second), first)}, {pairNet(1, 1, 1, 1), or(or(no, second), second)}} {
		if e, code := impl.FilterEx(row.n, 0, 1); code != 0 || !sameEx(e, row.want) {
			t.Errorf("FilterEx of %v: %s, code %d, not %s", row.n.Filters, brief(e), code, brief(row.want))
		}
		checkFilterEx(t, row.n, 0, 1)
		// Nothing is filtered the other way, nor from a router to itself.
		for _, ends := range [][2]int{{1, 0}, {0, 0}, {1, 1}} {
			if e, code := impl.FilterEx(row.n, ends[0], ends[1]); code != 0 || !sameEx(e, no) {
				t.Errorf("FilterEx of %v: %s, code %d", ends, brief(e), code)
			}
		}
	}
}

// TestOneFilter has all filters that there may be.
func TestOneFilter(t *testing.T) {
	for low := range 16 {
		for high := low; high < 16; high++ {
			e := checkFilterEx(t, pairNet(low, high), 0, 1)
			want, code := slowProve(4, e)
			if code != 0 {
				t.Fatalf("ports from %d to %d: code %d", low, high, code)
			}
			checkProve(t, 4, e, want)
			if isAll := low == 0 && high == 15; want.Valid != isAll {
				t.Errorf("all ports from %d to %d: %v", low, high, want.Valid)
			}
		}
	}
}

// TestManyFilters: those of one hop alone count, and five of these have no room any more.
func TestManyFilters(t *testing.T) {
	r := chance()
	codes, several := map[int]int{}, 0
	for range 2000 {
		n := filteredNet(r)
		for at := range n.Routers {
			for to := range n.Routers {
				e := checkFilterEx(t, n, at, to)
				_, code := impl.FilterEx(n, at, to)
				codes[code]++
				if e.Kind == impl.ExOr && e.Kids[0].Kind == impl.ExOr {
					several++
				}
			}
		}
	}
	if codes[0] < 5000 || codes[impl.ErrSize] < 50 || several < 1000 {
		t.Errorf("codes %v, %d of several filters: the test tells little", codes, several)
	}
	for count := range impl.MaxFilters + 1 {
		var ports []int
		for i := range count {
			ports = append(ports, 2*i, 2*i)
		}
		want := 0
		if count > 4 {
			want = impl.ErrSize
		}
		if e, code := impl.FilterEx(pairNet(ports...), 0, 1); code != want || code != 0 && !sameEx(e, impl.Ex{}) {
			t.Errorf("FilterEx of %d filters: %s, code %d", count, brief(e), code)
		}
	}
	// As many, but not of one hop.
	n := pairNet(0, 0, 2, 2, 4, 4, 6, 6, 8, 8, 10, 10)
	n.Filters[1].At, n.Filters[1].To, n.Filters[4].At, n.Filters[4].To = 1, 0, 1, 0
	checkFilterEx(t, n, 0, 1)
	checkFilterEx(t, n, 1, 0)
}

func checkApartOf(t *testing.T, n impl.Net, at, to int, m impl.Net, from, into, want, wantCode int) {
	t.Helper()
	if port, code := impl.FilterApart(n, at, to, m, from, into); port != want || code != wantCode {
		t.Fatalf("FilterApart(%v, %d, %d, %v, %d, %d) = %d, %d, not %d, %d", n, at, to, m, from, into, port, code, want, wantCode)
	}
}

// slowApart goes from the last port back.
func slowApart(a, b [16]bool) (int, int) {
	first, code := 0, impl.ErrNone
	for port := 15; port >= 0; port-- {
		if a[port] != b[port] {
			first, code = port, 0
		}
	}
	return first, code
}

func TestFilterApart(t *testing.T) {
	for _, row := range []struct {
		a, b []int
		port int
		code int
	}{
		{nil, nil, 0, impl.ErrNone}, {[]int{0, 15}, []int{0, 15}, 0, impl.ErrNone}, {[]int{0, 15}, nil, 0, 0}, {[]int{7, 7}, nil, 7, 0}, {[]int{15, 15}, nil, 15, 0}, {[]int{0, 0}, nil, 0, 0},
		// The first as numbers go: by the lowest bits, 8 would come ahead of 1, and 4 ahead of 3.
		{[]int{1, 1, 8, 8}, nil, 1, 0}, {[]int{3, 4}, nil, 3, 0}, {[]int{7, 8}, nil, 7, 0}, {[]int{1, 15}, nil, 1, 0}, {[]int{1, 15}, []int{3, 15}, 1, 0},
		// One port alone.
		{[]int{0, 15}, []int{0, 14}, 15, 0}, {[]int{0, 15}, []int{1, 15}, 0, 0}, {[]int{0, 15}, []int{0, 6, 8, 15}, 7, 0}, {[]int{2, 9}, []int{3, 9}, 2, 0}, {[]int{2, 9}, []int{2, 10}, 10, 0},
		// Alike by other filters.
		{[]int{0, 15}, []int{0, 7, 8, 15}, 0, impl.ErrNone}, {[]int{2, 5}, []int{4, 5, 2, 3}, 0, impl.ErrNone}, {[]int{2, 9}, []int{2, 7, 4, 9}, 0, impl.ErrNone}, {[]int{3, 3, 3, 3}, []int{3, 3}, 0, impl.ErrNone}, {[]int{3, 8, 5, 6}, []int{3, 8}, 0, impl.ErrNone},
		// As many as there may be: their expressions have no room.
		{[]int{0, 0, 2, 2, 4, 4, 6, 6, 8, 8, 10, 10}, []int{10, 10, 8, 8, 6, 6, 4, 4, 2, 2, 0, 0}, 0, impl.ErrNone}, {[]int{0, 0, 2, 2, 4, 4, 6, 6, 8, 8, 10, 10}, []int{10, 10, 8, 8, 6, 6, 4, 4, 2, 2, 0, 1}, 1, 0},
		{[]int{0, 0, 1, 1, 2, 2, 3, 3, 4, 4, 5, 5}, []int{0, 5}, 0, impl.ErrNone}, {[]int{0, 0, 1, 1, 2, 2, 3, 3, 4, 4, 5, 5}, []int{0, 6}, 6, 0}, {[]int{0, 0, 1, 1, 2, 2, 3, 3, 4, 4, 6, 6}, []int{0, 6}, 5, 0},
	} {
		n, m := pairNet(row.a...), pairNet(row.b...)
		checkApartOf(t, n, 0, 1, m, 0, 1, row.port, row.code)
		checkApartOf(t, m, 0, 1, n, 0, 1, row.port, row.code)
		checkApartOf(t, n, 0, 1, n, 0, 1, 0, impl.ErrNone)
		// Of one network with both.
		both := pairNet(row.a...)
		for _, f := range m.Filters {
			if len(both.Filters) < impl.MaxFilters {
				both.Filters = append(both.Filters, impl.Filter{At: 1, To: 0, Low: f.Low, High: f.High})
			}
		}
		if len(both.Filters) == len(n.Filters)+len(m.Filters) {
			checkApartOf(t, both, 0, 1, both, 1, 0, row.port, row.code)
			checkApartOf(t, both, 1, 0, both, 0, 1, row.port, row.code)
			checkApartOf(t, both, 1, 0, m, 0, 1, 0, impl.ErrNone)
		}
	}
}

// TestWithoutLinks: from a router to itself, or to one that no link joins, nothing is filtered.
func TestWithoutLinks(t *testing.T) {
	n := netOf(t, "router a\nrouter b\nrouter c\nrouter d\nlink a b\nlink b c\nfilter a to b port 0 15\nfilter c to b port 4 9\nfilter b to c port 0 0\n")
	for at := range 4 {
		for to := range 4 {
			filtered := slowFiltered(n, at, to)
			checkFilterEx(t, n, at, to)
			port, code := slowApart(filtered, [16]bool{})
			for router := range 4 {
				checkApartOf(t, n, at, to, n, router, router, port, code)
				checkApartOf(t, n, 3, router, n, at, to, port, code)
			}
			checkApartOf(t, n, 0, 2, n, at, to, port, code)
			checkApartOf(t, n, at, to, impl.Net{Routers: []string{"x"}}, 0, 0, port, code)
		}
	}
}

// checkTwo holds what two expressions are proved to be against the first port that tells them apart.
func checkTwo(t *testing.T, d, e impl.Ex, apart, apartCode int) int {
	t.Helper()
	claim := not(xor(d, e))
	a, code := impl.Prove(4, claim)
	if code != 0 {
		return code
	}
	checkProved(t, 4, claim, a)
	if a.Valid != (apartCode == impl.ErrNone) {
		t.Fatalf("%s and %s: %s, and FilterApart tells %d, %d", brief(d), brief(e), brief(a), apart, apartCode)
	}
	values, isFalse := firstFalse(4, claim)
	if a.Valid == isFalse || !sameValues(a.Values, values) {
		t.Fatalf("%s and %s differ at %v, not at %v", brief(d), brief(e), a.Values, values)
	}
	if a.Valid {
		return 0
	}
	// Both tell of ports that do tell them apart; FilterApart tells the first.
	if portOf(a.Values) < apart {
		t.Fatalf("the port %d comes ahead of %d", portOf(a.Values), apart)
	}
	checkAnswer(t, 4, claim, impl.Answer{Values: valuesOf(apart, 4)}, true, 0)
	for port := range apart {
		checkAnswer(t, 4, claim, impl.Answer{Values: valuesOf(port, 4)}, false, 0)
	}
	return 0
}

// TestAnyTwoFilters has all pairs of filters that there may be.
func TestAnyTwoFilters(t *testing.T) {
	var nets []impl.Net
	var expressions []impl.Ex
	for low := range 16 {
		for high := low; high < 16; high++ {
			n := pairNet(low, high)
			e, _ := impl.FilterEx(n, 0, 1)
			nets, expressions = append(nets, n), append(expressions, e)
		}
	}
	other := 0
	for i, n := range nets {
		for j, m := range nets {
			port, code := slowApart(slowFiltered(n, 0, 1), slowFiltered(m, 0, 1))
			if (code == impl.ErrNone) != (i == j) {
				t.Fatal("filters that are not alike are", n, m)
			}
			checkApartOf(t, n, 0, 1, m, 0, 1, port, code)
			if code := checkTwo(t, expressions[i], expressions[j], port, code); code != 0 {
				t.Fatalf("%v and %v have no room: %d", n.Filters, m.Filters, code)
			}
			if values, _ := firstFalse(4, not(xor(expressions[i], expressions[j]))); len(values) > 0 && portOf(values) != port {
				other++
			}
		}
	}
	if other < 1000 {
		t.Errorf("%d differ in their first port and their least model: the test tells little", other)
	}
}

// alike has the ports of filters again, by other filters: parted, joined, overlapping or in another order.
func alike(r *rand.Rand, n impl.Net) impl.Net {
	m := copyOfNet(n)
	for i := range m.Filters {
		f := &m.Filters[i]
		switch r.Intn(3) {
		case 0:
			if f.Low < f.High && len(m.Filters) < impl.MaxFilters {
				g := *f
				f.High = f.Low + r.Intn(f.High-f.Low)
				g.Low = min(f.High+1, f.Low+r.Intn(g.High-f.Low)+1)
				m.Filters = append(m.Filters, g)
			}
		case 1:
			if len(m.Filters) < impl.MaxFilters {
				m.Filters = append(m.Filters, impl.Filter{At: f.At, To: f.To, Low: f.Low, High: f.Low + r.Intn(f.High-f.Low+1)})
			}
		}
	}
	r.Shuffle(len(m.Filters), func(i, j int) { m.Filters[i], m.Filters[j] = m.Filters[j], m.Filters[i] })
	return m
}

// TestFiltersOfAnyNets: from the texts of networks to the first port, and to a proof where there is none.
func TestFiltersOfAnyNets(t *testing.T) {
	r := chance()
	apart, same, proofs, late := 0, 0, 0, 0
	for i := range 3000 {
		n := filteredNet(r)
		m := filteredNet(r)
		if i%2 == 0 {
			m = alike(r, n)
		}
		if i%8 == 0 && len(m.Filters) > 0 {
			m.Filters[0].High = min(m.Filters[0].High+1, 15)
		}
		n, m = netOf(t, slowNetText(n)), netOf(t, slowNetText(m))
		for range 4 {
			at, to, from, into := r.Intn(len(n.Routers)), r.Intn(len(n.Routers)), r.Intn(len(m.Routers)), r.Intn(len(m.Routers))
			if i%2 == 0 {
				from, into = at, to
			}
			port, code := slowApart(slowFiltered(n, at, to), slowFiltered(m, from, into))
			checkApartOf(t, n, at, to, m, from, into, port, code)
			if code == 0 {
				apart++
			} else if slowFiltered(n, at, to) != [16]bool{} {
				same++
			}
			if port > 0 {
				late++
			}
			d, codeD := impl.FilterEx(n, at, to)
			e, codeE := impl.FilterEx(m, from, into)
			if codeD == 0 && codeE == 0 && checkTwo(t, d, e, port, code) == 0 && !sameEx(d, e) && code != 0 {
				proofs++
			}
		}
	}
	if apart < 1000 || same < 500 || proofs < 100 || late < 500 {
		t.Errorf("%d apart, %d the same, %d proved to be, %d ports above 0: the test tells little", apart, same, proofs, late)
	}
}

// TestFiltersAndPackets: a packet that a filter ends is of a port that the expression tells, and where it is proved that none is, no packet ends so.
func TestFiltersAndPackets(t *testing.T) {
	r := chance()
	stopped, free := 0, 0
	for range 4000 {
		n := filteredNet(r)
		routes, down := someRoutes(r, n), make([]bool, len(n.Links))
		from, port := r.Intn(len(n.Routers)), r.Intn(16)
		w, code := impl.Forward(n, down, routes, from, port)
		if code != 0 {
			t.Fatalf("Forward(%v, %v, %d, %d): code %d", n, routes, from, port, code)
		}
		at := w.Path[len(w.Path)-1]
		to := routes[at].Via
		if to < 0 {
			continue
		}
		e, code := impl.FilterEx(n, at, to)
		if code != 0 {
			continue
		}
		if w.Outcome == impl.OcFilter {
			stopped++
			checkValue(t, e, valuesOf(port, 4), true)
			checkAnswer(t, 4, not(e), impl.Answer{Values: valuesOf(port, 4)}, true, 0)
		}
		if a, code := impl.Prove(4, not(e)); code == 0 && a.Valid {
			free++
			checkProved(t, 4, not(e), a)
			if w.Outcome == impl.OcFilter {
				t.Fatalf("a packet of port %d ends at a filter from %d to %d, and there is none: %v", port, at, to, n)
			}
		}
	}
	if stopped < 300 || free < 50 {
		t.Errorf("%d stopped, %d free: the test tells little", stopped, free)
	}
}
