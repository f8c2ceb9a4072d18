package tests

import (
	"testing"

	"loop.example/g00159/impl"
)

// Tests of promise 4: the refutation of a formula without models, where it has room, checks.

func sameSteps(a, b []impl.Step) bool {
	if len(a) != len(b) {
		return false
	}
	for i := range a {
		if a[i].Delete != b[i].Delete || !sameList(a[i].Clause, b[i].Clause) {
			return false
		}
	}
	return true
}

func checkRefutation(t *testing.T, f impl.Cnf, want []impl.Step, wantCode int) {
	t.Helper()
	got, code := impl.Refutation(f)
	if code != wantCode || !sameSteps(got, want) {
		t.Fatalf("Refutation(%v) = %v, %d, not %v, %d", f, got, code, want, wantCode)
	}
	if code == 0 {
		checkProof(t, f, got, len(got)-1, 0)
	}
}

func TestRefutation(t *testing.T) {
	for _, c := range []struct {
		vars    int
		clauses [][]int
		want    []impl.Step
		code    int
	}{
		// Without variables.
		{0, nil, nil, impl.ErrNone},
		{0, [][]int{{}}, []impl.Step{step()}, 0},
		{0, [][]int{{}, nil}, []impl.Step{step()}, 0},
		// Without a choice.
		{40, [][]int{{}}, []impl.Step{step()}, 0},
		{1, [][]int{{1}, {-1}}, []impl.Step{step()}, 0},
		{3, [][]int{{1}, {-1, 2}, {-2, 3}, {-3, -2}}, []impl.Step{step()}, 0},
		{1, [][]int{{1}}, nil, impl.ErrNone},
		{1, nil, nil, impl.ErrNone},
		{3, [][]int{{1, 2}}, nil, impl.ErrNone},
		// False first, then true, then what is ahead of both.
		{2, core().Clauses, []impl.Step{step(1), step(-1), step()}, 0},
		{3, shifted(core(), 1).Clauses, []impl.Step{
			step(1, 2), step(1, -2), step(1), step(-1, 2), step(-1, -2), step(-1), step(),
		}, 0},
		// What follows has a value, and is neither chosen nor told.
		{4, append(shifted(core(), 2).Clauses, []int{1, 2}, []int{1, -2, 2}), []impl.Step{
			step(1, 3), step(1, -3), step(1), step(-1, 2, 3), step(-1, 2, -3), step(-1, 2),
			step(-1, -2, 3), step(-1, -2, -3), step(-1, -2), step(-1), step(),
		}, 0},
		{4, append(shifted(core(), 2).Clauses, []int{2}), []impl.Step{
			step(1, 3), step(1, -3), step(1), step(-1, 3), step(-1, -3), step(-1), step(),
		}, 0},
		// A model behind the first steps.
		{2, [][]int{{1, 2}, {1, -2}}, nil, impl.ErrNone},
		{2, [][]int{{-1, 2}, {1, 2}, {1, -2}}, nil, impl.ErrNone},
	} {
		checkRefutation(t, impl.Cnf{Vars: c.vars, Clauses: c.clauses}, c.want, c.code)
	}
	for _, f := range wrongFormulas() {
		checkRefutation(t, f, nil, impl.ErrBad)
	}
}

// slowRefutation does, word by word, what the document says, from a list of what is chosen on.
func slowRefutation(f impl.Cnf, chosen []int, ahead []impl.Step) ([]impl.Step, int) {
	told := slowPropagate(f, chosen)
	steps := ahead
	if told.failed < 0 {
		free := 0
		for v := f.Vars; v > 0; v-- {
			if held := append(told.follow, chosen...); !isTrue(held, v) && !isTrue(held, -v) {
				free = v
			}
		}
		if free == 0 {
			return nil, impl.ErrNone
		}
		for _, literal := range []int{-free, free} {
			var code int
			steps, code = slowRefutation(f, append(chosen[:len(chosen):len(chosen)], literal), steps)
			if code != 0 {
				return nil, code
			}
		}
	}
	if len(steps) == impl.MaxSteps || len(chosen) > impl.MaxWidth {
		return nil, impl.ErrMany
	}
	var clause []int
	for _, literal := range chosen {
		clause = append(clause, -literal)
	}
	return append(steps, impl.Step{Clause: clause}), 0
}

func TestRefutationWordByWord(t *testing.T) {
	r := chance()
	codes, long := map[int]int{}, 0
	for i := range 6000 {
		f := wideCnf(r, 10, 40, 4)
		if i%3 == 0 {
			f = threes(r, 8+r.Intn(5), 70+r.Intn(50))
		}
		if i%20 == 0 {
			f = threes(r, 25+r.Intn(16), 140+r.Intn(60))
		}
		want, code := slowRefutation(f, nil, nil)
		checkRefutation(t, f, want, code)
		codes[code]++
		if len(want) > 20 {
			long++
		}
	}
	if codes[0] < 1000 || codes[impl.ErrNone] < 1000 || codes[impl.ErrMany] < 50 || long < 200 {
		t.Errorf("codes %v, %d long: the test tells nothing", codes, long)
	}
}

// TestRefutationsAreOfFormulasWithoutModels holds what Refutation tells against the values themselves.
func TestRefutationsAreOfFormulasWithoutModels(t *testing.T) {
	r := chance()
	for range 3000 {
		f := wideCnf(r, 8, 30, 3)
		count, _ := slowModels(f)
		steps, code := impl.Refutation(f)
		if (code == impl.ErrNone) != (count > 0) || code == impl.ErrMany && len(steps) > 0 {
			t.Fatalf("Refutation(%v): %d, and there are %d models", f, code, count)
		}
		if code == 0 {
			checkProof(t, f, steps, len(steps)-1, 0)
		}
	}
}

// leaves adds, for paths of so many leaves at two depths, two clauses each that are against the path.
func leaves(f *impl.Cnf, path []int, depth, short int) int {
	if len(path) == depth || len(path) == depth-1 && short > 0 {
		for _, last := range []int{f.Vars, -f.Vars} {
			clause := append([]int(nil), path...)
			f.Clauses = append(f.Clauses, append(clause, last))
		}
		if len(path) < depth {
			short--
		}
		return short
	}
	v := len(path) + 1
	short = leaves(f, append(path[:len(path):len(path)], v), depth, short)
	return leaves(f, append(path[:len(path):len(path)], -v), depth, short)
}

// tree is a formula whose refutation has so many leaves, from 64 to 128.
func tree(count int) impl.Cnf {
	f := impl.Cnf{Vars: 8}
	leaves(&f, nil, 7, 128-count)
	return f
}

func TestRefutationHasRoomForSteps(t *testing.T) {
	f := tree(100)
	steps, code := impl.Refutation(f)
	if code != 0 || len(steps) != 199 {
		t.Fatalf("a tree of 100 leaves: %d steps, %d", len(steps), code)
	}
	checkProof(t, f, steps, 198, 0)
	checkRefutation(t, tree(101), nil, impl.ErrMany)
	checkRefutation(t, tree(128), nil, impl.ErrMany)
	// A model that is met behind the step that has no room is not told, one ahead of it is.
	f = tree(128)
	f.Clauses = f.Clauses[:254]
	checkRefutation(t, f, nil, impl.ErrMany)
	f = tree(100)
	f.Clauses = f.Clauses[:198]
	checkRefutation(t, f, nil, impl.ErrNone)
	f = tree(128)
	f.Clauses = append(f.Clauses[:100:100], f.Clauses[102:]...)
	checkRefutation(t, f, nil, impl.ErrNone)
	// Ahead of the model there are 127 steps by the first variable, and 73 or 75 by the second one.
	checkRefutation(t, twoTrees(37), nil, impl.ErrNone)
	checkRefutation(t, twoTrees(38), nil, impl.ErrMany)
}

// twoTrees has a model where the first two variables are true, a tree of 64 leaves where the first one is false, and one of so many, from 32 to 64, where the second one is.
func twoTrees(count int) impl.Cnf {
	f := impl.Cnf{Vars: 9}
	leaves(&f, []int{1}, 7, 0)
	leaves(&f, []int{-1, 2}, 8, 64-count)
	return f
}

// comb has one way down: each of n variables is false, for true leads to a false clause; the last clause has as many as it may. The refutation has n - 1 choices at most.
func comb(n int) impl.Cnf {
	f := impl.Cnf{Vars: n + 1}
	var last []int
	for v := 1; v <= n; v++ {
		f.Clauses = append(f.Clauses, []int{-v, n + 1}, []int{-v, -n - 1})
		if v > n-impl.MaxWidth {
			last = append(last, v)
		}
	}
	f.Clauses = append(f.Clauses, last)
	return f
}

func TestRefutationHasRoomForLiterals(t *testing.T) {
	f := comb(13)
	steps, code := impl.Refutation(f)
	if code != 0 || len(steps) != 25 || !sameList(steps[0].Clause, []int{1, 2, 3, 4, 5, 6, 7, 8, 9, 10, 11, 12}) {
		t.Fatalf("a comb of 13: %v, %d", steps, code)
	}
	checkProof(t, f, steps, 24, 0)
	checkRefutation(t, comb(14), nil, impl.ErrMany)
	checkRefutation(t, comb(39), nil, impl.ErrMany)
	// The way down comes first: a model is told if it is there, however many choices lead to it.
	f = comb(14)
	f.Clauses = f.Clauses[2:]
	checkRefutation(t, f, nil, impl.ErrMany)
	f = comb(14)
	f.Clauses = f.Clauses[:28]
	checkRefutation(t, f, nil, impl.ErrNone)
	checkRefutation(t, impl.Cnf{Vars: impl.MaxVars}, nil, impl.ErrNone)
	checkRefutation(t, shifted(core(), 38), nil, impl.ErrMany)
	checkRefutation(t, shifted(core(), 11), nil, impl.ErrMany)
	checkRefutation(t, shifted(core(), 12), nil, impl.ErrMany)
}

// TestRefutationsEnd has formulas of which a search to the end would not come to one.
func TestRefutationsEnd(t *testing.T) {
	r := chance()
	inTime(t, "refutations", func() {
		impl.Refutation(pigeons(8, 5))
		impl.Refutation(shifted(pigeons(6, 5), 10))
		for range 50 {
			vars, sums := graph(r, 20, 4, append(make([]bool, 19), true))
			impl.Refutation(parityCnf(vars, sums))
			impl.Refutation(threes(r, impl.MaxVars, impl.MaxClauses))
		}
	})
	f := pigeons(4, 3)
	steps, code := impl.Refutation(f)
	if code != 0 {
		t.Fatalf("4 pigeons, 3 holes: %d", code)
	}
	checkProof(t, f, steps, len(steps)-1, 0)
}
