package tests

import (
	"math"
	"math/rand"
	"testing"

	"loop.example/g00159/impl"
)

// Tests of promise 4: what is RUP and RAT, and which proofs check.

func step(literals ...int) impl.Step {
	return impl.Step{Clause: literals}
}

func removal(literals ...int) impl.Step {
	return impl.Step{Delete: true, Clause: literals}
}

// core is a formula of two variables without a model.
func core() impl.Cnf {
	return impl.Cnf{Vars: 2, Clauses: [][]int{{1, 2}, {1, -2}, {-1, 2}, {-1, -2}}}
}

func checkRupRat(t *testing.T, f impl.Cnf, clause []int, rup, rat bool) {
	t.Helper()
	if got, code := impl.Rup(f, clause); code != 0 || got != rup {
		t.Fatalf("Rup(%v, %v) = %v, %d, not %v", f, clause, got, code, rup)
	}
	if got, code := impl.Rat(f, clause); code != 0 || got != rat {
		t.Fatalf("Rat(%v, %v) = %v, %d, not %v", f, clause, got, code, rat)
	}
}

func TestRupAndRat(t *testing.T) {
	for _, c := range []struct {
		vars     int
		clauses  [][]int
		clause   []int
		rup, rat bool
	}{
		// Without a literal nothing is RAT.
		{0, nil, nil, false, false},
		{0, [][]int{{}}, nil, true, false},
		{1, [][]int{{1}, {-1}}, nil, true, false},
		{2, [][]int{{1, 2}, {1, -2}, {-1, 2}, {-1, -2}}, nil, false, false},
		// Where a clause is false at once, all others are RUP.
		{3, [][]int{{}}, []int{3}, true, true},
		{3, [][]int{{1}, {-1}}, []int{-3, 2}, true, true},
		// A variable and its opposite.
		{1, nil, []int{1, -1}, true, true},
		{2, [][]int{{1}, {-2}}, []int{2, -1, 1}, true, true},
		{2, [][]int{{-1, 2}}, []int{1, -1}, true, true},
		// Implied, but not by propagation alone.
		{4, [][]int{{1, 2, 3}, {1, 2, -3}, {1, -2, 3}, {1, -2, -3}, {-1, 4}}, []int{1}, false, false},
		{4, [][]int{{1, 2, 3}, {1, 2, -3}, {1, -2, 3}, {1, -2, -3}, {-1, 2}}, []int{1}, false, true},
		{4, [][]int{{1, 2, 3}, {1, 2, -3}, {1, -2, 3}, {1, -2, -3}, {-1, 4}}, []int{2, 1}, true, true},
		{2, [][]int{{1, 2}, {1, -2}}, []int{1}, true, true},
		{2, [][]int{{1, 2}, {1, -2}}, []int{1, 1}, true, true},
		// A variable that nothing speaks of, or of which there is no opposite.
		{3, [][]int{{1, 2}}, []int{3}, false, true},
		{3, [][]int{{1, 2}}, []int{-3, -1}, false, true},
		{3, [][]int{{1, 2}}, []int{1}, false, true},
		{3, [][]int{{1, 2}}, []int{-1}, false, false},
		// By the first literal, and by another one alone.
		{3, [][]int{{1, 2}, {-1, 3}}, []int{1, 3}, false, false},
		{3, [][]int{{1, 2}, {-1, 3}}, []int{3, 1}, false, true},
		{3, [][]int{{1, 2}, {-1, 3}}, []int{1, 3, 1, 3}, false, false},
		{3, [][]int{{1, 2}, {-1, 3}}, []int{3, 3, 1, 1}, false, true},
		// All clauses that have the opposite count.
		{4, [][]int{{-1, -2}, {-1, -3}}, []int{1, 2, 3}, false, true},
		{4, [][]int{{-1, -2}, {-1, -4}}, []int{1, 2, 3}, false, false},
		{4, [][]int{{-1, -4}, {-1, -2}}, []int{1, 2, 3}, false, false},
		{4, [][]int{{-1, -4}, {-1, -2}, {4, 3}}, []int{1, 2, 3}, false, false},
		{4, [][]int{{-1, -4}, {-1, -2}, {-4, 3}}, []int{1, 2, 3}, false, true},
		// The opposite is none of the other literals, however often it is there.
		{2, [][]int{{-1, -1, 2}}, []int{1}, false, false},
		{2, [][]int{{2, -1, 2, -1}}, []int{1}, false, false},
		{2, [][]int{{-1, -1, -2}}, []int{1, 2}, false, true},
		// Another clause with a variable and its opposite.
		{2, [][]int{{-1, 1}}, []int{1}, false, false},
		{2, [][]int{{-1, 2, -2}}, []int{1}, false, true},
		// Both stand for the literal that is asked for, and against it.
		{2, [][]int{{1}}, []int{1}, true, true},
		{2, [][]int{{1}}, []int{-1}, false, false},
		{2, [][]int{{-1}, {2}}, []int{1, 2}, true, true},
		{2, [][]int{{-1}}, []int{2, 1}, false, true},
	} {
		checkRupRat(t, impl.Cnf{Vars: c.vars, Clauses: c.clauses}, c.clause, c.rup, c.rat)
	}
}

// TestWideTogether: a clause and the other literals of another one may be wider than a clause may be.
func TestWideTogether(t *testing.T) {
	f := impl.Cnf{Vars: impl.MaxVars, Clauses: [][]int{{-1}}}
	clause := []int{1}
	for v := 2; v <= impl.MaxWidth; v++ {
		clause = append(clause, v)
		f.Clauses[0] = append(f.Clauses[0], 20+v)
	}
	checkRupRat(t, f, clause, false, false)
	f.Clauses = append(f.Clauses, []int{-40, 20 + impl.MaxWidth}, []int{40, impl.MaxWidth})
	checkRupRat(t, f, clause, false, true)
}

func TestRupAndRatFaults(t *testing.T) {
	right, wrong := impl.Cnf{Vars: 3}, impl.Cnf{Vars: -1}
	type row struct {
		f      impl.Cnf
		clause []int
		code   int
	}
	rows := []row{
		{right, []int{0}, impl.ErrBad},
		{right, []int{1, 4}, impl.ErrBad},
		{right, []int{1, -1, -4}, impl.ErrBad},
		{right, []int{math.MinInt}, impl.ErrBad},
		{right, []int{math.MaxInt}, impl.ErrBad},
		{impl.Cnf{}, []int{1}, impl.ErrBad},
		{impl.Cnf{Clauses: [][]int{{}}}, []int{1}, impl.ErrBad},
		{right, repeated(1, impl.MaxWidth+1), impl.ErrBad},
		{right, append(repeated(1, impl.MaxWidth), -1), impl.ErrBad},
		{right, repeated(1, impl.MaxList), impl.ErrBad},
		{right, repeated(1, impl.MaxList+1), impl.ErrLong},
		{wrong, repeated(1, impl.MaxList), impl.ErrBad},
		{wrong, repeated(0, impl.MaxList+1), impl.ErrLong},
	}
	for _, f := range wrongFormulas() {
		rows = append(rows, row{f, nil, impl.ErrBad}, row{f, []int{1}, impl.ErrBad})
	}
	for _, c := range rows {
		if got, code := impl.Rup(c.f, c.clause); code != c.code || got {
			t.Errorf("Rup(%v, %.20v) = %v, %d, not %d", c.f, c.clause, got, code, c.code)
		}
		if got, code := impl.Rat(c.f, c.clause); code != c.code || got {
			t.Errorf("Rat(%v, %.20v) = %v, %d, not %d", c.f, c.clause, got, code, c.code)
		}
	}
	checkRupRat(t, right, repeated(1, impl.MaxWidth), false, true)
}

// slowRup does, word by word, what the document says.
func slowRup(f impl.Cnf, clause []int) bool {
	var held []int
	for _, literal := range clause {
		if isTrue(clause, -literal) {
			return true
		}
		held = append(held, -literal)
	}
	return slowPropagate(f, held).failed >= 0
}

func slowRat(f impl.Cnf, clause []int) bool {
	for _, other := range f.Clauses {
		if len(clause) == 0 || !isTrue(other, -clause[0]) {
			continue
		}
		both := append([]int(nil), clause...)
		for _, literal := range other {
			if literal != -clause[0] {
				both = append(both, literal)
			}
		}
		if !slowRup(f, both) {
			return false
		}
	}
	return len(clause) > 0
}

func TestRupAndRatWordByWord(t *testing.T) {
	r := chance()
	rups, rats := 0, 0
	for i := range 40000 {
		f := wideCnf(r, 12, 16, 4)
		if i%4 == 0 {
			f = someCnf(r, 5, 8, 4)
		}
		clause := someClause(r, f.Vars, 3)
		rup, rat := slowRup(f, clause), slowRat(f, clause)
		checkRupRat(t, f, clause, rup, rat)
		if rup && len(f.Clauses) > 4 {
			rups++
		}
		if rat && !rup && len(f.Clauses) > 4 {
			rats++
		}
	}
	if rups < 2000 || rats < 2000 {
		t.Errorf("only %d are RUP, %d RAT alone: the test tells nothing", rups, rats)
	}
}

// TestWhatRupAndRatPromise: what is RUP is implied, and what is RAT leaves a formula with a model one with a model.
func TestWhatRupAndRatPromise(t *testing.T) {
	r := chance()
	for range 6000 {
		f := wideCnf(r, 6, 14, 3)
		clause := someClause(r, f.Vars, 4)
		if rup, _ := impl.Rup(f, clause); rup {
			checkImplied(t, f, clause, true)
		}
		if rat, _ := impl.Rat(f, clause); rat {
			before, _ := slowModels(f)
			more := copyOf(f)
			more.Clauses = append(more.Clauses, clause)
			if behind, _ := slowModels(more); before > 0 && behind == 0 {
				t.Fatalf("Rat(%v, %v), and it takes the last model away", f, clause)
			}
		}
	}
}

func checkProof(t *testing.T, f impl.Cnf, steps []impl.Step, at, code int) {
	t.Helper()
	if gotAt, gotCode := impl.CheckProof(f, steps); gotAt != at || gotCode != code {
		t.Fatalf("CheckProof(%v, %v) = %d, %d, not %d, %d", f, steps, gotAt, gotCode, at, code)
	}
}

type proofRow struct {
	f        impl.Cnf
	steps    []impl.Step
	at, code int
}

func checkProofs(t *testing.T, rows []proofRow) {
	t.Helper()
	for _, c := range rows {
		checkProof(t, c.f, c.steps, c.at, c.code)
	}
}

func TestCheckProof(t *testing.T) {
	false0 := impl.Cnf{Clauses: [][]int{{}}}
	pair := impl.Cnf{Vars: 1, Clauses: [][]int{{1}, {-1}}}
	checkProofs(t, []proofRow{
		// No steps prove nothing, even where a clause is empty.
		{core(), nil, 0, impl.ErrForm},
		{impl.Cnf{}, nil, 0, impl.ErrForm},
		{false0, nil, 0, impl.ErrForm},
		{pair, []impl.Step{}, 0, impl.ErrForm},
		// An empty clause that may stand there, and one that may not.
		{false0, []impl.Step{step()}, 0, 0},
		{pair, []impl.Step{step()}, 0, 0},
		{impl.Cnf{}, []impl.Step{step()}, 0, impl.ErrState},
		{impl.Cnf{Vars: 40}, []impl.Step{step()}, 0, impl.ErrState},
		{core(), []impl.Step{step()}, 0, impl.ErrState},
		{core(), []impl.Step{step(1), step()}, 1, 0},
		{core(), []impl.Step{step(-2), step()}, 1, 0},
		{core(), []impl.Step{step(1, 2), step()}, 1, impl.ErrState},
		{core(), []impl.Step{step(1), step(-1), step()}, 2, 0},
		// Steps behind the one that ends it say nothing.
		{core(), []impl.Step{step(1), step(), step()}, 1, 0},
		{pair, []impl.Step{step(), removal(1, -1), removal(1)}, 0, 0},
		{pair, []impl.Step{step(1), step(), removal(1, -1)}, 1, 0},
		// It does not end.
		{core(), []impl.Step{step(1)}, 1, impl.ErrForm},
		{pair, []impl.Step{step(1), step(-1), removal(-1)}, 3, impl.ErrForm},
		// A clause with a variable and its opposite may stand anywhere.
		{core(), []impl.Step{step(2, -2), step(1), step()}, 2, 0},
		{impl.Cnf{Vars: 2, Clauses: [][]int{{1}, {2}}}, []impl.Step{step(-1, 2, 1)}, 1, impl.ErrForm},
		// A step that is RAT alone: what has no opposite there may be so.
		{impl.Cnf{Vars: 3, Clauses: [][]int{{1, 2}}}, []impl.Step{step(3), step(-3, 1)}, 1, impl.ErrState},
		{impl.Cnf{Vars: 3, Clauses: [][]int{{1, 2}}}, []impl.Step{step(3), step(1, -3), step(2)}, 3, impl.ErrForm},
		{impl.Cnf{Vars: 3, Clauses: [][]int{{1, 2}}}, []impl.Step{step(3), step(-3)}, 1, impl.ErrState},
		// Steps count for what is RAT behind them.
		{impl.Cnf{Vars: 3, Clauses: [][]int{{1, 2}}}, []impl.Step{step(3, 2), step(-3, -2), step(-2)}, 2, impl.ErrState},
		// RAT by the first literal, and by another one alone.
		{impl.Cnf{Vars: 3, Clauses: [][]int{{1, 2}, {-1, 3}}}, []impl.Step{step(3, 1)}, 1, impl.ErrForm},
		{impl.Cnf{Vars: 3, Clauses: [][]int{{1, 2}, {-1, 3}}}, []impl.Step{step(1, 3)}, 0, impl.ErrState},
		{impl.Cnf{Vars: 3, Clauses: [][]int{{1, 2}, {-1, 3}}}, []impl.Step{step(3, 1), step(1, 3)}, 2, impl.ErrForm},
	})
}

func TestWhatIsTakenAway(t *testing.T) {
	twice := impl.Cnf{Vars: 2, Clauses: [][]int{{1}, {1, 1}, {-1}}}
	chain := impl.Cnf{Vars: 3, Clauses: [][]int{{1}, {-1, 2}, {-2, 3}, {-3, -2}}}
	checkProofs(t, []proofRow{
		// A clause that stands there twice is taken away once.
		{twice, []impl.Step{removal(1), step()}, 1, 0},
		{twice, []impl.Step{removal(1), removal(1), step()}, 2, impl.ErrState},
		{twice, []impl.Step{removal(1), removal(1), removal(1), step()}, 2, impl.ErrNone},
		{twice, []impl.Step{removal(1, 1, 1), removal(-1, -1), step()}, 2, impl.ErrState},
		// Its literals in another order or number.
		{core(), []impl.Step{removal(2, 1, 2), step(1)}, 1, impl.ErrState},
		{core(), []impl.Step{removal(2, 1, 2), removal(1, 2)}, 1, impl.ErrNone},
		{core(), []impl.Step{removal(-2, 1, -2, 1), removal(1, -2)}, 1, impl.ErrNone},
		{impl.Cnf{Vars: 2, Clauses: [][]int{{2, 1, 1}}}, []impl.Step{removal(1, 2), removal(1, 2)}, 1, impl.ErrNone},
		{impl.Cnf{Vars: 2, Clauses: [][]int{{2, 1, -1}}}, []impl.Step{removal(1, 2)}, 0, impl.ErrNone},
		{impl.Cnf{Vars: 2, Clauses: [][]int{{2, 1, -1}}}, []impl.Step{removal(1, -1, 2, 2)}, 1, impl.ErrForm},
		// A part of a clause, or more than it, is another one.
		{core(), []impl.Step{removal(1)}, 0, impl.ErrNone},
		{chain, []impl.Step{removal(1, 2)}, 0, impl.ErrNone},
		{chain, []impl.Step{removal(-1)}, 0, impl.ErrNone},
		// A step is taken away.
		{core(), []impl.Step{step(1), removal(1), step()}, 2, impl.ErrState},
		{core(), []impl.Step{step(1), step(1), removal(1), step()}, 3, 0},
		{core(), []impl.Step{step(1), step(2), removal(1), step()}, 3, 0},
		{core(), []impl.Step{step(1), removal(1), removal(1)}, 2, impl.ErrNone},
		{core(), []impl.Step{removal(1), step(1)}, 0, impl.ErrNone},
		// The empty clause is one, too; its Delete ends nothing.
		{impl.Cnf{Clauses: [][]int{{}}}, []impl.Step{removal(), step()}, 1, impl.ErrState},
		{impl.Cnf{Clauses: [][]int{{}, nil}}, []impl.Step{removal(), step()}, 1, 0},
		{impl.Cnf{Clauses: [][]int{{}}}, []impl.Step{removal()}, 1, impl.ErrForm},
		{core(), []impl.Step{removal(), step(1), step()}, 0, impl.ErrNone},
		// What followed by it does not follow any more.
		{chain, []impl.Step{step()}, 0, 0},
		{chain, []impl.Step{removal(1), step()}, 1, impl.ErrState},
		{chain, []impl.Step{removal(1), step(2), step()}, 1, impl.ErrState},
		{chain, []impl.Step{removal(1), step(-2), step()}, 2, impl.ErrState},
		{chain, []impl.Step{step(2), removal(1), step()}, 2, 0},
		{chain, []impl.Step{removal(-2, 3), step()}, 1, impl.ErrState},
		{chain, []impl.Step{removal(-1, 2), step()}, 1, impl.ErrState},
		// What is taken away is no hindrance to RAT.
		{impl.Cnf{Vars: 2, Clauses: [][]int{{-1, 2}}}, []impl.Step{step(1)}, 0, impl.ErrState},
		{impl.Cnf{Vars: 2, Clauses: [][]int{{-1, 2}}}, []impl.Step{removal(2, -1), step(1)}, 2, impl.ErrForm},
		// A formula from which its models' foes are taken may have a model.
		{impl.Cnf{Vars: 1, Clauses: [][]int{{1}, {-1}}}, []impl.Step{removal(-1), step(1), step()}, 2, impl.ErrState},
	})
}

func TestCheckProofFaults(t *testing.T) {
	three := impl.Cnf{Vars: 3, Clauses: [][]int{{1, 2}, {-1}}}
	end := []impl.Step{step()}
	checkProofs(t, []proofRow{
		{three, []impl.Step{step(4)}, 0, impl.ErrBad},
		{three, []impl.Step{step(2), step(0)}, 0, impl.ErrBad},
		{three, []impl.Step{step(2), removal(-4)}, 0, impl.ErrBad},
		{three, []impl.Step{step(2), step(math.MinInt)}, 0, impl.ErrBad},
		{three, []impl.Step{step(2), removal(math.MaxInt)}, 0, impl.ErrBad},
		{impl.Cnf{}, []impl.Step{step(1)}, 0, impl.ErrBad},
		{impl.Cnf{Clauses: [][]int{{}}}, []impl.Step{step(), step(1)}, 0, impl.ErrBad},
		{three, []impl.Step{step(repeated(2, impl.MaxWidth)...)}, 1, impl.ErrForm},
		{three, []impl.Step{step(repeated(2, impl.MaxWidth+1)...)}, 0, impl.ErrBad},
		{three, []impl.Step{removal(repeated(-1, impl.MaxWidth)...)}, 1, impl.ErrForm},
		{three, []impl.Step{removal(repeated(-1, impl.MaxWidth+1)...)}, 0, impl.ErrBad},
		// ErrBad ahead of all else, wherever it stands.
		{three, []impl.Step{removal(3), step(4)}, 0, impl.ErrBad},
		{three, []impl.Step{step(1), step(4)}, 0, impl.ErrBad},
		{core(), []impl.Step{step(1), step(), step(3)}, 0, impl.ErrBad},
		// Step by step: the first one at fault is told.
		{three, []impl.Step{removal(3), step(1)}, 0, impl.ErrNone},
		{three, []impl.Step{step(1), removal(3)}, 0, impl.ErrState},
		{three, []impl.Step{step(2), removal(3), step(1)}, 1, impl.ErrNone},
		{three, []impl.Step{step(2), step(1), removal(3)}, 1, impl.ErrState},
		{three, []impl.Step{step(2), removal(2), removal(2)}, 2, impl.ErrNone},
	})
	for _, f := range wrongFormulas() {
		checkProofs(t, []proofRow{{f, nil, 0, impl.ErrBad}, {f, end, 0, impl.ErrBad}, {f, []impl.Step{removal(1)}, 0, impl.ErrBad}})
	}
}

// repeatedStep is a list of so many steps, alike.
func repeatedStep(s impl.Step, times int) []impl.Step {
	list := make([]impl.Step, times)
	for i := range list {
		list[i] = s
	}
	return list
}

func TestHowManySteps(t *testing.T) {
	f, wrong := core(), impl.Cnf{Vars: -1}
	most := repeatedStep(step(1), impl.MaxSteps)
	checkProof(t, f, most, impl.MaxSteps, impl.ErrForm)
	checkProof(t, f, append(most[:impl.MaxSteps-1:impl.MaxSteps-1], step()), impl.MaxSteps-1, 0)
	checkProof(t, f, append(most[:impl.MaxSteps:impl.MaxSteps], step()), 0, impl.ErrBad)
	checkProof(t, f, append([]impl.Step{step(1), step()}, most[2:]...), 1, 0)
	checkProof(t, f, append([]impl.Step{step(1), step()}, most[1:]...), 0, impl.ErrBad)
	checkProof(t, f, repeatedStep(step(0), impl.MaxList), 0, impl.ErrBad)
	checkProof(t, f, repeatedStep(step(0), impl.MaxList+1), 0, impl.ErrLong)
	checkProof(t, wrong, repeatedStep(step(1), impl.MaxList), 0, impl.ErrBad)
	checkProof(t, wrong, repeatedStep(step(1), impl.MaxList+1), 0, impl.ErrLong)
}

// TestMoreClausesThanAFormulaMayHave: steps stand behind the clauses of the greatest formula.
func TestMoreClausesThanAFormulaMayHave(t *testing.T) {
	f := impl.Cnf{Vars: impl.MaxVars, Clauses: repeatedClause([]int{1, -1}, impl.MaxClauses-4)}
	f.Clauses = append(f.Clauses, core().Clauses...)
	steps := repeatedStep(step(1), impl.MaxSteps-2)
	checkProof(t, f, append(steps, step(40), step()), impl.MaxSteps-1, 0)
	checkProof(t, f, append(repeatedStep(step(40), impl.MaxSteps-2), step(-2), step()), impl.MaxSteps-1, 0)
	checkProof(t, f, append(repeatedStep(removal(-1, 1), impl.MaxSteps-2), step(-2), step()), impl.MaxSteps-1, 0)
}

func sameLiterals(a, b []int) bool {
	for _, literal := range a {
		if !isTrue(b, literal) {
			return false
		}
	}
	for _, literal := range b {
		if !isTrue(a, literal) {
			return false
		}
	}
	return true
}

// slowCheck does, word by word, what the document says.
func slowCheck(f impl.Cnf, steps []impl.Step) (int, int) {
	g := copyOf(f)
	for at, s := range steps {
		if !s.Delete {
			if !slowRup(g, s.Clause) && !slowRat(g, s.Clause) {
				return at, impl.ErrState
			}
			if len(s.Clause) == 0 {
				return at, 0
			}
			g.Clauses = append(g.Clauses, s.Clause)
			continue
		}
		last := -1
		for i, clause := range g.Clauses {
			if sameLiterals(clause, s.Clause) {
				last = i
			}
		}
		if last < 0 {
			return at, impl.ErrNone
		}
		g.Clauses = append(g.Clauses[:last:last], g.Clauses[last+1:]...)
	}
	return len(steps), impl.ErrForm
}

// stirred has the literals of a clause in another order, and perhaps one of them once more.
func stirred(r *rand.Rand, clause []int) []int {
	list := append([]int(nil), clause...)
	if len(list) > 0 && len(list) < impl.MaxWidth && r.Intn(2) == 0 {
		list = append(list, list[r.Intn(len(list))])
	}
	r.Shuffle(len(list), func(i, j int) { list[i], list[j] = list[j], list[i] })
	return list
}

// someSteps begins with a refutation, if there is one, and puts steps of other kinds between.
func someSteps(r *rand.Rand, f impl.Cnf) []impl.Step {
	base, _ := impl.Refutation(f)
	if len(base) == 0 || r.Intn(8) == 0 {
		base = []impl.Step{step()}
	}
	var steps []impl.Step
	for _, s := range base {
		for r.Intn(4) == 0 {
			steps = append(steps, someStep(r, f, steps))
		}
		if r.Intn(12) > 0 {
			steps = append(steps, impl.Step{Clause: stirred(r, s.Clause)})
		}
	}
	return steps
}

// someStep is a Delete of a clause of the formula or of the steps ahead, or any clause.
func someStep(r *rand.Rand, f impl.Cnf, ahead []impl.Step) impl.Step {
	switch r.Intn(4) {
	case 0:
		if len(ahead) > 0 {
			return impl.Step{Delete: true, Clause: stirred(r, ahead[r.Intn(len(ahead))].Clause)}
		}
	case 1:
		if len(f.Clauses) > 0 {
			return impl.Step{Delete: true, Clause: stirred(r, f.Clauses[r.Intn(len(f.Clauses))])}
		}
	case 2:
		return impl.Step{Clause: append(someClause(r, f.Vars, 2), someLiteral(r, f.Vars))}
	}
	// Of a list with a variable and its opposite every literal may be the first.
	literal := someLiteral(r, f.Vars)
	return impl.Step{Clause: stirred(r, append(someClause(r, f.Vars, 2), literal, -literal))}
}

func TestCheckProofWordByWord(t *testing.T) {
	r := chance()
	codes, taken := map[int]int{}, 0
	for i := range 12000 {
		f := wideCnf(r, 7, 30, 3)
		if i%3 == 0 {
			f = threes(r, 6, 40+r.Intn(10))
		}
		steps := someSteps(r, f)
		at, code := slowCheck(f, steps)
		checkProof(t, f, steps, at, code)
		codes[code]++
		for j := 0; code == 0 && j < at; j++ {
			if steps[j].Delete {
				taken++
			}
		}
	}
	if codes[0] < 1000 || codes[impl.ErrNone] < 200 || codes[impl.ErrState] < 1000 || codes[impl.ErrForm] < 200 || taken < 500 {
		t.Errorf("codes %v, %d taken away in proofs that check: the test tells nothing", codes, taken)
	}
}

// TestWhatChecksHasNoModel holds proofs of every kind against the values themselves.
func TestWhatChecksHasNoModel(t *testing.T) {
	r := chance()
	checked, refused := 0, 0
	for range 20000 {
		f := wideCnf(r, 4, 12, 2)
		steps := someSteps(r, f)
		if r.Intn(2) == 0 {
			steps = nil
			for range 1 + r.Intn(6) {
				steps = append(steps, someStep(r, f, steps))
			}
			steps = append(steps, step())
		}
		_, code := impl.CheckProof(f, steps)
		count, _ := slowModels(f)
		if code == 0 && count > 0 {
			t.Fatalf("CheckProof(%v, %v) checks, and there are %d models", f, steps, count)
		}
		if code == 0 {
			checked++
		} else if count > 0 {
			refused++
		}
	}
	if checked < 1000 || refused < 1000 {
		t.Errorf("only %d check, %d with models are refused: the test tells nothing", checked, refused)
	}
}

// TestMuchToCheck has step by step asked against hundreds of clauses, each of which has all variables follow.
func TestMuchToCheck(t *testing.T) {
	f := impl.Cnf{Vars: impl.MaxVars, Clauses: [][]int{{-40, 2}}}
	for v := 3; v < impl.MaxVars; v++ {
		f.Clauses = append(f.Clauses, []int{-v, v + 1})
	}
	for len(f.Clauses) < impl.MaxClauses {
		f.Clauses = append(f.Clauses, []int{-1, -3, 1 - impl.MaxVars})
	}
	checkRupRat(t, f, []int{1, 2}, false, true)
	checkRupRat(t, f, []int{2, 1}, false, true)
	var steps []impl.Step
	for len(steps) < impl.MaxSteps {
		steps = append(steps, step(1, 2), removal(1, 2))
	}
	var at, code int
	inTime(t, "100 steps against 260 clauses each", func() {
		at, code = impl.CheckProof(f, steps)
	})
	if at != impl.MaxSteps || code != impl.ErrForm {
		t.Errorf("CheckProof = %d, %d", at, code)
	}
	// Without what the last variable leads to none of these steps is RAT any more.
	checkProof(t, f, []impl.Step{removal(2, -40), step(1, 2)}, 1, impl.ErrState)
}
