package tests

import (
	"math/rand"
	"testing"
	"time"

	"loop.example/g00159/impl"
)

// Formulas of up to MaxVars variables that a search by all values, or one that goes back choice by choice, does not end with.

const goodTime = 60 * time.Second

// inTime fails a test that does not end, instead of waiting for it.
func inTime(t *testing.T, name string, do func()) {
	t.Helper()
	ended := make(chan struct{})
	go func() {
		defer close(ended)
		do()
	}()
	select {
	case <-ended:
	case <-time.After(goodTime):
		t.Fatalf("%s does not end in good time", name)
	}
}

// checkLeast looks for the least model, nil being none, and for what it implies.
func checkLeast(t *testing.T, name string, f impl.Cnf, want []bool) {
	t.Helper()
	if !impl.CnfOK(f) {
		t.Fatalf("%s: no formula: %d variables, %d clauses", name, f.Vars, len(f.Clauses))
	}
	var got []bool
	var code, emptyCode int
	var empty bool
	inTime(t, name, func() {
		got, code = impl.LeastModel(f)
		empty, emptyCode = impl.Implied(f, nil)
	})
	wantCode := 0
	if want == nil {
		wantCode = impl.ErrNone
	}
	if code != wantCode || !sameValues(got, want) {
		t.Fatalf("%s: LeastModel = %v, %d, not %v", name, got, code, want)
	}
	if emptyCode != 0 || empty != (want == nil) {
		t.Fatalf("%s: Implied of the empty clause = %v, %d", name, empty, emptyCode)
	}
}

// shifted has so many variables more, ahead of all others.
func shifted(f impl.Cnf, by int) impl.Cnf {
	g := copyOf(f)
	g.Vars += by
	for _, clause := range g.Clauses {
		for i := range clause {
			if clause[i] > 0 {
				clause[i] += by
			} else {
				clause[i] -= by
			}
		}
	}
	return g
}

// guarded is true, too, wherever variable 1 is; all others are one behind.
func guarded(f impl.Cnf) impl.Cnf {
	g := shifted(f, 1)
	for i := range g.Clauses {
		g.Clauses[i] = append(g.Clauses[i], 1)
	}
	return g
}

// onlyFirst are values of which just the first is true.
func onlyFirst(vars int) []bool {
	values := make([]bool, vars)
	values[0] = true
	return values
}

func TestFreeVariablesAhead(t *testing.T) {
	core := impl.Cnf{Vars: 2, Clauses: [][]int{{1, 2}, {1, -2}, {-1, 2}, {-1, -2}}}
	checkLeast(t, "a core behind 38 variables", shifted(core, 38), nil)
	core.Clauses = core.Clauses[:3]
	checkLeast(t, "a model behind 38 variables", shifted(core, 38), append(make([]bool, 38), true, true))
	checkLeast(t, "nothing", impl.Cnf{Vars: impl.MaxVars}, make([]bool, impl.MaxVars))
	checkLeast(t, "an empty clause", impl.Cnf{Vars: impl.MaxVars, Clauses: [][]int{{}}}, nil)
	last := impl.Cnf{Vars: impl.MaxVars}
	for v := 1; v < impl.MaxVars; v++ {
		last.Clauses = append(last.Clauses, []int{v, impl.MaxVars}, []int{-v, -impl.MaxVars})
	}
	checkLeast(t, "all against the last", last, append(make([]bool, 39), true))
}

// pigeons puts each of some into a hole, no two into one: pigeon i is in hole j by variable i*holes+j+1.
func pigeons(count, holes int) impl.Cnf {
	f := impl.Cnf{Vars: count * holes}
	for i := range count {
		var clause []int
		for j := range holes {
			clause = append(clause, i*holes+j+1)
			for k := range i {
				f.Clauses = append(f.Clauses, []int{-(i*holes + j + 1), -(k*holes + j + 1)})
			}
		}
		f.Clauses = append(f.Clauses, clause)
	}
	return f
}

func TestPigeons(t *testing.T) {
	checkLeast(t, "8 pigeons, 5 holes", pigeons(8, 5), nil)
	checkLeast(t, "6 pigeons, 5 holes, behind 10 variables", shifted(pigeons(6, 5), 10), nil)
	checkLeast(t, "4 pigeons, 3 holes, behind 28 variables", shifted(pigeons(4, 3), 28), nil)
	checkLeast(t, "6 pigeons, 5 holes, guarded", guarded(pigeons(6, 5)), onlyFirst(31))
	// The first pigeon is in the last hole, the next one in the last but one, ..
	least := make([]bool, 36)
	for i := range 6 {
		least[i*6+5-i] = true
	}
	checkLeast(t, "6 pigeons, 6 holes", pigeons(6, 6), least)
}

// parity is a sum of variables that is odd or even.
type parity struct {
	vars []int
	odd  bool
}

// clauses has one for each row of values that is against a parity.
func (p parity) clauses() [][]int {
	var clauses [][]int
	for number := range 1 << len(p.vars) {
		odd := false
		var clause []int
		for i, v := range p.vars {
			if number>>i&1 == 1 {
				odd = !odd
				clause = append(clause, -v)
			} else {
				clause = append(clause, v)
			}
		}
		if odd != p.odd {
			clauses = append(clauses, clause)
		}
	}
	return clauses
}

func parityCnf(vars int, sums []parity) impl.Cnf {
	f := impl.Cnf{Vars: vars}
	for _, sum := range sums {
		f.Clauses = append(f.Clauses, sum.clauses()...)
	}
	return f
}

// leastOfParities solves sums from the last variable on: one that no sum needs as its last is false.
func leastOfParities(vars int, sums []parity) []bool {
	var rows []uint64 // bit v for variable v, bit 0 for odd
	for _, sum := range sums {
		row := uint64(0)
		for _, v := range sum.vars {
			row ^= 1 << v
		}
		if sum.odd {
			row ^= 1
		}
		rows = append(rows, row)
	}
	pivots := map[int]uint64{}
	for v := vars; v > 0; v-- {
		at := -1
		for i, row := range rows {
			if row>>v&1 == 1 {
				at = i
				break
			}
		}
		if at < 0 {
			continue
		}
		pivot := rows[at]
		rows = append(rows[:at], rows[at+1:]...)
		for i := range rows {
			if rows[i]>>v&1 == 1 {
				rows[i] ^= pivot
			}
		}
		pivots[v] = pivot
	}
	for _, row := range rows {
		if row != 0 {
			return nil
		}
	}
	values := make([]bool, vars)
	for v := 1; v <= vars; v++ {
		pivot, ok := pivots[v]
		values[v-1] = ok && pivot&1 == 1
		for w := 1; ok && w < v; w++ {
			values[v-1] = values[v-1] != (values[w-1] && pivot>>w&1 == 1)
		}
	}
	return values
}

// graph joins places at chance, each to so many others; a variable is an edge, and at each place the sum of its edges is even, but as odd says.
func graph(r *rand.Rand, places, degree int, odd []bool) (int, []parity) {
	for {
		ends := make([]int, places*degree)
		for i := range ends {
			ends[i] = i % places
		}
		r.Shuffle(len(ends), func(i, j int) { ends[i], ends[j] = ends[j], ends[i] })
		sums := make([]parity, places)
		whole := true
		for i := 0; i < len(ends); i += 2 {
			a, b := ends[i], ends[i+1]
			whole = whole && a != b
			sums[a].vars = append(sums[a].vars, i/2+1)
			sums[b].vars = append(sums[b].vars, i/2+1)
		}
		for i := range odd {
			sums[i].odd = odd[i]
		}
		if whole {
			return len(ends) / 2, sums
		}
	}
}

func TestParities(t *testing.T) {
	r := chance()
	for range 12 {
		odd := make([]bool, 20)
		odd[r.Intn(20)] = true
		vars, sums := graph(r, 20, 4, odd)
		if leastOfParities(vars, sums) != nil {
			t.Fatal("a sum over all edges that is odd")
		}
		checkLeast(t, "a graph of 40 edges", parityCnf(vars, sums), nil)
		// Even in all: then there are models.
		at := r.Intn(20)
		sums[at].odd = !sums[at].odd
		checkLeast(t, "an even graph of 40 edges", parityCnf(vars, sums), leastOfParities(vars, sums))
	}
	for range 6 {
		vars, sums := graph(r, 13, 6, append(make([]bool, 12), true))
		checkLeast(t, "a graph of 39 edges", parityCnf(vars, sums[:9]), leastOfParities(vars, sums[:9]))
		vars, sums = graph(r, 18, 4, append(make([]bool, 17), true))
		checkLeast(t, "a guarded graph of 36 edges", guarded(parityCnf(vars, sums)), onlyFirst(37))
	}
}

func TestSumsOfFour(t *testing.T) {
	r := chance()
	with := 0
	for range 40 {
		vars := impl.MaxVars - r.Intn(8)
		var sums []parity
		for range 37 {
			four := r.Perm(vars)[:4]
			for i := range four {
				four[i]++
			}
			sums = append(sums, parity{four, r.Intn(2) == 0})
		}
		least := leastOfParities(vars, sums)
		if least != nil {
			with++
		}
		checkLeast(t, "37 sums of four", parityCnf(vars, sums), least)
	}
	if with < 5 || with > 35 {
		t.Errorf("%d of 40 have models: the test tells nothing", with)
	}
}

// slowLeast tries false, then true, variable by variable, with what follows by slowPropagate.
func slowLeast(f impl.Cnf, held []int) []bool {
	told := slowPropagate(f, held)
	if told.failed >= 0 {
		return nil
	}
	held = append(append([]int(nil), held...), told.follow...)
	for v := 1; v <= f.Vars; v++ {
		if isTrue(held, v) || isTrue(held, -v) {
			continue
		}
		if values := slowLeast(f, append(held[:len(held):len(held)], -v)); values != nil {
			return values
		}
		return slowLeast(f, append(held[:len(held):len(held)], v))
	}
	values := make([]bool, f.Vars)
	for _, literal := range held {
		if literal > 0 {
			values[literal-1] = true
		}
	}
	return values
}

func TestClausesOfThree(t *testing.T) {
	r := chance()
	with := 0
	for range 60 {
		f := threes(r, impl.MaxVars, 150+r.Intn(30))
		least := slowLeast(f, nil)
		if least != nil {
			with++
		}
		checkLeast(t, "clauses of three", f, least)
		if least == nil {
			continue
		}
		// A clause that the least model makes false is not implied.
		var against []int
		for i, value := range least {
			if len(against) < impl.MaxWidth && !value {
				against = append(against, i+1)
			}
		}
		checkImplied(t, f, against, false)
	}
	if with < 5 || with > 55 {
		t.Errorf("%d of 60 have models: the test tells nothing", with)
	}
}
