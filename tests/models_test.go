package tests

import (
	"math"
	"math/rand"
	"testing"

	"loop.example/g00159/impl"
)

// Tests of promise 3: what propagation tells, the least model, counts and what is implied.

// toldOf is what Propagate answers without a code.
type toldOf struct {
	follow []int
	failed int
}

func checkPropagate(t *testing.T, f impl.Cnf, literals []int, want toldOf) {
	t.Helper()
	follow, failed, code := impl.Propagate(f, literals)
	if code != 0 || failed != want.failed || !sameList(follow, want.follow) {
		t.Fatalf("Propagate(%v, %v) = %v, %d, %d, not %v", f, literals, follow, failed, code, want)
	}
}

func TestPropagate(t *testing.T) {
	for _, c := range []struct {
		vars     int
		clauses  [][]int
		literals []int
		follow   []int
		failed   int
	}{
		{0, nil, nil, nil, -1},
		{40, nil, []int{40, -1}, nil, -1},
		{0, [][]int{{}}, nil, nil, 0},
		{1, [][]int{{1}, {}, nil}, nil, nil, 1},
		{1, [][]int{{1}}, nil, []int{1}, -1},
		{1, [][]int{{1}}, []int{1}, nil, -1},
		{1, [][]int{{1}}, []int{-1}, nil, 0},
		{1, [][]int{{-1}, {-1}}, nil, []int{-1}, -1},
		{1, [][]int{{1}, {-1}}, nil, []int{1}, 1},
		{1, [][]int{{-1}, {1}}, nil, []int{-1}, 1},
		{2, [][]int{{2, 2, 2}}, nil, []int{2}, -1},
		{2, [][]int{{2, -1, 2, -1}}, []int{1}, []int{2}, -1},
		{2, [][]int{{1, -1}, {2, 1, -1}}, nil, nil, -1},
		{2, [][]int{{2, -2, 1}}, []int{-1}, nil, -1},
		{2, [][]int{{1, 2}}, []int{1, 1, 1}, nil, -1},
		{2, [][]int{{1, 2}}, []int{-1, -1}, []int{2}, -1},
		{40, [][]int{{39, -40}}, []int{40}, []int{39}, -1},
	} {
		checkPropagate(t, impl.Cnf{Vars: c.vars, Clauses: c.clauses}, c.literals, toldOf{c.follow, c.failed})
	}
}

// TestTheFirstClauseGoesFirst has formulas of which another order tells something else.
func TestTheFirstClauseGoesFirst(t *testing.T) {
	for _, c := range []struct {
		clauses  [][]int
		literals []int
		follow   []int
		failed   int
	}{
		// What follows stands as it comes, not by variables.
		{[][]int{{4}, {-3}, {2}}, nil, []int{4, -3, 2}, -1},
		{[][]int{{-1, 4}, {-4, 2}, {-2, 3}}, []int{1}, []int{4, 2, 3}, -1},
		// A clause ahead that has just come to it goes ahead of one that was there sooner.
		{[][]int{{-2, 3}, {1}, {2}, {4}}, nil, []int{1, 2, 3, 4}, -1},
		{[][]int{{-3, 4}, {-2, 3}, {-1, 2}, {-1, 5}}, []int{1}, []int{2, 3, 4, 5}, -1},
		{[][]int{{-1, 5}, {-1, 2}, {-2, 3}, {-5, 4}}, []int{1}, []int{5, 2, 3, 4}, -1},
		// The order of what is given says nothing.
		{[][]int{{-2, 3}, {-1, 4}}, []int{1, 2}, []int{3, 4}, -1},
		{[][]int{{-2, 3}, {-1, 4}}, []int{2, 1}, []int{3, 4}, -1},
		// A false clause is looked for first.
		{[][]int{{3}, {4}, {-1, -2}}, []int{1, 2}, nil, 2},
		{[][]int{{3}, {4}, {}}, nil, nil, 2},
		{[][]int{{3}, {-3, 4}, {-3, -4}, {5}}, nil, []int{3, 4}, 2},
		{[][]int{{1}, {2}, {3}, {-1}}, nil, []int{1}, 3},
		{[][]int{{1}, {2}, {3}, {-2}}, nil, []int{1, 2}, 3},
		// Of several that are false at once the first is told.
		{[][]int{{-2, -1}, {1, -2}, {-1}, {2, -1}}, []int{1, 2}, nil, 0},
		{[][]int{{3, 4}, {-2}, {}, {-1}}, []int{1, 2}, nil, 1},
		{[][]int{{1}, {-1, -2}, {2}, {-2, -1}, {-2}}, nil, []int{1, -2}, 2},
		{[][]int{{-1, 2}, {-1, 3}, {-3, -2}, {-2, -3}}, []int{1}, []int{2, 3}, 2},
	} {
		checkPropagate(t, impl.Cnf{Vars: 5, Clauses: c.clauses}, c.literals, toldOf{c.follow, c.failed})
	}
}

func isTrue(held []int, literal int) bool {
	for _, h := range held {
		if h == literal {
			return true
		}
	}
	return false
}

// left answers the only literal that is not false in a clause without a true one (0 if there are others), and whether all are false.
func left(clause, held []int) (int, bool) {
	one := 0
	for _, literal := range clause {
		if isTrue(held, literal) {
			return 0, false
		}
		if isTrue(held, -literal) || literal == one {
			continue
		}
		if one != 0 {
			return 0, false
		}
		one = literal
	}
	return one, one == 0
}

// slowPropagate does, word by word, what the document says.
func slowPropagate(f impl.Cnf, literals []int) toldOf {
	held := append([]int(nil), literals...)
	told := toldOf{failed: -1}
	for {
		next := 0
		for number, clause := range f.Clauses {
			one, failed := left(clause, held)
			if failed {
				told.failed = number
				return told
			}
			if next == 0 {
				next = one
			}
		}
		if next == 0 {
			return told
		}
		held = append(held, next)
		told.follow = append(told.follow, next)
	}
}

// someGiven is a list of literals of which none is another's opposite; some may be there twice.
func someGiven(r *rand.Rand, vars int) []int {
	var given []int
	for range r.Intn(4) {
		if vars == 0 {
			break
		}
		if literal := someLiteral(r, vars); !isTrue(given, -literal) {
			given = append(given, literal)
		}
	}
	return given
}

func TestPropagateWordByWord(t *testing.T) {
	r := chance()
	long, failed := 0, 0
	for range 60000 {
		f := someCnf(r, 12, 30, 3)
		if r.Intn(3) > 0 {
			f = wideCnf(r, 12, 30, 4)
		}
		given := someGiven(r, f.Vars)
		want := slowPropagate(f, given)
		checkPropagate(t, f, given, want)
		if len(want.follow) > 3 {
			long++
			if want.failed >= 0 {
				failed++
			}
		}
	}
	if long < 2000 || failed < 500 {
		t.Errorf("only %d with much that follows, %d of them with a false clause: the test tells nothing", long, failed)
	}
}

// wideCnf has no empty clauses and few short ones, so that propagation goes far.
func wideCnf(r *rand.Rand, vars, clauses, width int) impl.Cnf {
	f := impl.Cnf{Vars: 1 + r.Intn(vars)}
	for range r.Intn(clauses + 1) {
		clause := []int{someLiteral(r, f.Vars)}
		for range r.Intn(width) {
			clause = append(clause, someLiteral(r, f.Vars))
		}
		f.Clauses = append(f.Clauses, clause)
	}
	return f
}

func TestTheGreatestFormulaPropagates(t *testing.T) {
	r := chance()
	for range 200 {
		f := impl.Cnf{Vars: impl.MaxVars}
		for range impl.MaxClauses {
			var clause []int
			for range 2 + r.Intn(impl.MaxWidth-1) {
				clause = append(clause, someLiteral(r, impl.MaxVars))
			}
			f.Clauses = append(f.Clauses, clause)
		}
		var given []int
		for v := 1; v <= impl.MaxVars; v += 1 + r.Intn(3) {
			given = append(given, v*(1-2*r.Intn(2)))
		}
		checkPropagate(t, f, given, slowPropagate(f, given))
	}
	// Variable by variable, from the last clause to the first and back.
	f := impl.Cnf{Vars: impl.MaxVars}
	var up, down []int
	for v := 1; v < impl.MaxVars; v++ {
		f.Clauses = append(f.Clauses, []int{v, -v - 1})
		f.Clauses = append(f.Clauses, []int{v + 1, -v})
		up = append(up, v+1)
		down = append(down, v-impl.MaxVars)
	}
	checkPropagate(t, f, []int{1}, toldOf{up, -1})
	checkPropagate(t, f, []int{-impl.MaxVars}, toldOf{down, -1})
}

// TestWhatFollowsIsSoInEachModel holds propagation against the values themselves.
func TestWhatFollowsIsSoInEachModel(t *testing.T) {
	r := chance()
	for range 4000 {
		f := wideCnf(r, 7, 14, 3)
		given := someGiven(r, f.Vars)
		follow, failed, code := impl.Propagate(f, given)
		if code != 0 {
			t.Fatalf("Propagate(%v, %v): %d", f, given, code)
		}
		for number := range 1 << f.Vars {
			values := valuesOf(number, f.Vars)
			if !cnfTrue(f, values) || !allTrue(given, values) {
				continue
			}
			if failed != -1 || !allTrue(follow, values) {
				t.Fatalf("Propagate(%v, %v) = %v, %d, but %v is a model", f, given, follow, failed, values)
			}
		}
	}
}

func allTrue(literals []int, values []bool) bool {
	for _, literal := range literals {
		if !clauseTrue([]int{literal}, values) {
			return false
		}
	}
	return true
}

func TestPropagateFaults(t *testing.T) {
	right := impl.Cnf{Vars: 3, Clauses: [][]int{{1, 2}, {-1, 3}}}
	wrong := impl.Cnf{Vars: 3, Clauses: [][]int{{4}}}
	for _, c := range []struct {
		f        impl.Cnf
		literals []int
		code     int
	}{
		{wrong, nil, impl.ErrBad},
		{wrong, []int{9}, impl.ErrBad},
		{wrong, []int{1, -1}, impl.ErrBad},
		{right, []int{0}, impl.ErrRange},
		{right, []int{4}, impl.ErrRange},
		{right, []int{-4}, impl.ErrRange},
		{right, []int{1, 2, 3, 4}, impl.ErrRange},
		{right, []int{math.MinInt}, impl.ErrRange},
		{right, []int{math.MaxInt}, impl.ErrRange},
		{impl.Cnf{}, []int{1}, impl.ErrRange},
		{right, []int{1, -1}, impl.ErrState},
		{right, []int{-3, 2, 3}, impl.ErrState},
		{right, []int{1, -1, 9}, impl.ErrState},
		{right, []int{9, 1, -1}, impl.ErrRange},
		{right, []int{1, 9, -1}, impl.ErrRange},
		{right, []int{1, 9, -9}, impl.ErrRange},
		{right, append(repeated(1, impl.MaxList-1), -1), impl.ErrState},
		{right, append(repeated(1, impl.MaxList), -1), impl.ErrLong},
		{right, repeated(0, impl.MaxList), impl.ErrRange},
		{right, repeated(0, impl.MaxList+1), impl.ErrLong},
		{wrong, repeated(1, impl.MaxList), impl.ErrBad},
		{wrong, repeated(1, impl.MaxList+1), impl.ErrLong},
	} {
		if follow, failed, code := impl.Propagate(c.f, c.literals); code != c.code || failed != 0 || len(follow) != 0 {
			t.Errorf("Propagate(%v, %.20v) = %v, %d, %d, not %d", c.f, c.literals, follow, failed, code, c.code)
		}
	}
	checkPropagate(t, right, repeated(1, impl.MaxList), toldOf{[]int{3}, -1})
	for _, f := range wrongFormulas() {
		if follow, failed, code := impl.Propagate(f, []int{1}); code != impl.ErrBad || failed != 0 || len(follow) != 0 {
			t.Errorf("Propagate(%v) = %v, %d, %d", f, follow, failed, code)
		}
	}
}

// slowModels counts models, and answers the least: variable 1 counts most.
func slowModels(f impl.Cnf) (int, []bool) {
	count := 0
	var least []bool
	for number := range 1 << f.Vars {
		values := make([]bool, f.Vars)
		for i := range values {
			values[i] = number>>(f.Vars-1-i)&1 == 1
		}
		if !cnfTrue(f, values) {
			continue
		}
		if count == 0 {
			least = values
		}
		count++
	}
	return count, least
}

func sameValues(a, b []bool) bool {
	if len(a) != len(b) {
		return false
	}
	for i := range a {
		if a[i] != b[i] {
			return false
		}
	}
	return true
}

func checkModels(t *testing.T, f impl.Cnf, count int, least []bool) {
	t.Helper()
	want := 0
	if count == 0 {
		want = impl.ErrNone
	}
	if got, code := impl.LeastModel(f); code != want || !sameValues(got, least) {
		t.Fatalf("LeastModel(%v) = %v, %d, not %v", f, got, code, least)
	}
	if got, code := impl.CountModels(f); code != 0 || got != count {
		t.Fatalf("CountModels(%v) = %d, %d, not %d", f, got, code, count)
	}
}

func TestModels(t *testing.T) {
	for _, c := range []struct {
		vars    int
		clauses [][]int
		count   int
		least   []bool
	}{
		{0, nil, 1, nil},
		{0, [][]int{{}}, 0, nil},
		{0, [][]int{nil, {}}, 0, nil},
		{1, nil, 2, []bool{false}},
		{1, [][]int{{}}, 0, nil},
		{1, [][]int{{1}}, 1, []bool{true}},
		{1, [][]int{{-1}}, 1, []bool{false}},
		{1, [][]int{{1, -1}}, 2, []bool{false}},
		{1, [][]int{{1, 1}, {1}}, 1, []bool{true}},
		{1, [][]int{{1}, {-1}}, 0, nil},
		{2, [][]int{{1, 2}}, 3, []bool{false, true}},
		{2, [][]int{{1, 2}, {-2}}, 1, []bool{true, false}},
		{3, [][]int{{1, 2, 3}}, 7, []bool{false, false, true}},
		{3, [][]int{{1, 2}, {-1, 3}, {-2, -3}}, 2, []bool{false, true, false}},
		{impl.MaxCount, nil, 4096, make([]bool, impl.MaxCount)},
		{impl.MaxCount, [][]int{{12}}, 2048, append(make([]bool, 11), true)},
		{impl.MaxCount, [][]int{{1, 2, 3, 4, 5, 6, 7, 8, 9, 10, 11, 12}}, 4095, append(make([]bool, 11), true)},
		{impl.MaxCount, [][]int{{-1, -2, -3, -4, -5, -6, -7, -8, -9, -10, -11, -12}}, 4095, make([]bool, 12)},
	} {
		checkModels(t, impl.Cnf{Vars: c.vars, Clauses: c.clauses}, c.count, c.least)
	}
}

func TestModelsOneByOne(t *testing.T) {
	r := chance()
	some, without := 0, 0
	for i := range 6000 {
		f := wideCnf(r, 10, 40, 4)
		if i%4 == 0 {
			f = someCnf(r, 5, 8, 4)
		}
		count, least := slowModels(f)
		checkModels(t, f, count, least)
		if count == 0 {
			without++
		} else if len(f.Clauses) > 10 {
			some++
		}
	}
	if some < 200 || without < 200 {
		t.Errorf("only %d with models, %d without: the test tells nothing", some, without)
	}
}

// TestManyChoices has formulas of which a first model is hardly ever the least.
func TestManyChoices(t *testing.T) {
	r := chance()
	with := 0
	for range 1500 {
		f := threes(r, impl.MaxCount, 40+r.Intn(15))
		count, least := slowModels(f)
		checkModels(t, f, count, least)
		if count > 1 {
			with++
		}
	}
	if with < 200 {
		t.Errorf("only %d with models: the test tells nothing", with)
	}
}

// threes has clauses of three variables each.
func threes(r *rand.Rand, vars, clauses int) impl.Cnf {
	f := impl.Cnf{Vars: vars}
	for range clauses {
		var clause []int
		for _, i := range r.Perm(vars)[:3] {
			clause = append(clause, (i+1)*(1-2*r.Intn(2)))
		}
		f.Clauses = append(f.Clauses, clause)
	}
	return f
}

func TestModelsFaults(t *testing.T) {
	for _, f := range wrongFormulas() {
		if got, code := impl.LeastModel(f); code != impl.ErrBad || len(got) != 0 {
			t.Errorf("LeastModel(%v) = %v, %d", f, got, code)
		}
		if got, code := impl.CountModels(f); code != impl.ErrBad || got != 0 {
			t.Errorf("CountModels(%v) = %d, %d", f, got, code)
		}
	}
	for _, c := range []struct {
		f    impl.Cnf
		code int
	}{
		{impl.Cnf{Vars: impl.MaxCount}, 0},
		{impl.Cnf{Vars: impl.MaxCount + 1}, impl.ErrSize},
		{impl.Cnf{Vars: impl.MaxCount + 1, Clauses: [][]int{{}}}, impl.ErrSize},
		{impl.Cnf{Vars: impl.MaxVars}, impl.ErrSize},
		{impl.Cnf{Vars: impl.MaxVars + 1}, impl.ErrBad},
		{impl.Cnf{Vars: impl.MaxCount + 1, Clauses: [][]int{{14}}}, impl.ErrBad},
	} {
		if got, code := impl.CountModels(c.f); code != c.code || code != 0 && got != 0 {
			t.Errorf("CountModels(%v) = %d, %d, not %d", c.f, got, code, c.code)
		}
	}
}

func checkImplied(t *testing.T, f impl.Cnf, clause []int, want bool) {
	t.Helper()
	if got, code := impl.Implied(f, clause); code != 0 || got != want {
		t.Fatalf("Implied(%v, %v) = %v, %d, not %v", f, clause, got, code, want)
	}
}

func TestImplied(t *testing.T) {
	for _, c := range []struct {
		vars    int
		clauses [][]int
		clause  []int
		want    bool
	}{
		{0, nil, nil, false},
		{0, [][]int{{}}, nil, true},
		{1, [][]int{{1}, {-1}}, nil, true},
		{1, [][]int{{1}, {-1}}, []int{1}, true},
		{1, nil, []int{1}, false},
		{1, nil, []int{1, -1}, true},
		{1, nil, []int{-1, 1, -1}, true},
		{1, [][]int{{1}}, []int{1, 1}, true},
		{1, [][]int{{1}}, []int{-1}, false},
		{1, [][]int{{1, -1}}, []int{1}, false},
		{2, [][]int{{1, 2}, {1, -2}}, []int{1}, true},
		{2, [][]int{{1, 2}, {1, -2}}, []int{2}, false},
		{2, [][]int{{1, 2}, {1, -2}}, []int{-2, 1}, true},
		{40, [][]int{{40}}, []int{-1, 40}, true},
		{40, [][]int{{40}}, []int{-1, -40}, false},
		{1, [][]int{{1}}, repeated(1, impl.MaxWidth), true},
	} {
		checkImplied(t, impl.Cnf{Vars: c.vars, Clauses: c.clauses}, c.clause, c.want)
	}
}

func TestImpliedOneByOne(t *testing.T) {
	r := chance()
	yes := 0
	for range 6000 {
		f := wideCnf(r, 8, 20, 3)
		clause := someClause(r, f.Vars, 5)
		want := true
		for number := range 1 << f.Vars {
			values := valuesOf(number, f.Vars)
			want = want && (!cnfTrue(f, values) || clauseTrue(clause, values))
		}
		checkImplied(t, f, clause, want)
		if want {
			yes++
		}
	}
	if yes < 500 || yes > 5500 {
		t.Errorf("%d of 6000 implied: the test tells nothing", yes)
	}
}

func TestImpliedFaults(t *testing.T) {
	right, wrong := impl.Cnf{Vars: 3}, impl.Cnf{Vars: -1}
	for _, c := range []struct {
		f      impl.Cnf
		clause []int
		code   int
	}{
		{wrong, nil, impl.ErrBad},
		{right, []int{0}, impl.ErrBad},
		{right, []int{1, 4}, impl.ErrBad},
		{right, []int{1, -1, 4}, impl.ErrBad},
		{right, []int{-4}, impl.ErrBad},
		{right, []int{math.MinInt}, impl.ErrBad},
		{right, []int{math.MaxInt}, impl.ErrBad},
		{impl.Cnf{}, []int{1}, impl.ErrBad},
		{right, repeated(1, impl.MaxWidth+1), impl.ErrBad},
		{right, append(repeated(1, impl.MaxWidth), -1), impl.ErrBad},
		{right, repeated(1, impl.MaxList), impl.ErrBad},
		{right, repeated(1, impl.MaxList+1), impl.ErrLong},
		{wrong, repeated(1, impl.MaxList), impl.ErrBad},
		{wrong, repeated(0, impl.MaxList+1), impl.ErrLong},
	} {
		if got, code := impl.Implied(c.f, c.clause); code != c.code || got {
			t.Errorf("Implied(%v, %.20v) = %v, %d, not %d", c.f, c.clause, got, code, c.code)
		}
	}
	for _, f := range wrongFormulas() {
		if got, code := impl.Implied(f, nil); code != impl.ErrBad || got {
			t.Errorf("Implied(%v) = %v, %d", f, got, code)
		}
	}
}
