package tests

import (
	"math"
	"testing"

	"loop.example/g00159/impl"
)

// Tests of promise 5: the formula of a circuit.

func checkTseitin(t *testing.T, a impl.Aig, literal int, want string) {
	t.Helper()
	f, code := impl.Tseitin(a, literal)
	text, _ := impl.DimacsText(f)
	if code != 0 || text != want {
		t.Errorf("Tseitin(%s, %d) = %q, %d, not %q", brief(a), literal, brief(text), code, brief(want))
	}
}

func TestTseitin(t *testing.T) {
	none, two := impl.Aig{}, circuit(2, 2, 4)
	gates := "-3 1 0\n-3 2 0\n3 -1 -2 0\n"
	for _, c := range []struct {
		a       impl.Aig
		literal int
		text    string
	}{
		// The literal 1 has no clause, 0 the empty one.
		{none, 1, "p cnf 0 0\n"}, {none, 0, "p cnf 0 1\n0\n"}, {circuit(3), 1, "p cnf 3 0\n"}, {circuit(3), 0, "p cnf 3 1\n0\n"},
		{two, 1, "p cnf 3 3\n" + gates}, {two, 0, "p cnf 3 4\n" + gates + "0\n"},
		// An even literal is its node, an odd one the opposite.
		{circuit(3), 2, "p cnf 3 1\n1 0\n"}, {circuit(3), 3, "p cnf 3 1\n-1 0\n"}, {circuit(3), 6, "p cnf 3 1\n3 0\n"}, {circuit(3), 7, "p cnf 3 1\n-3 0\n"},
		{two, 4, "p cnf 3 4\n" + gates + "2 0\n"}, {two, 6, "p cnf 3 4\n" + gates + "3 0\n"}, {two, 7, "p cnf 3 4\n" + gates + "-3 0\n"},
		{circuit(2, 3, 4), 6, "p cnf 3 4\n-3 -1 0\n-3 2 0\n3 1 -2 0\n3 0\n"}, {circuit(2, 2, 5), 6, "p cnf 3 4\n-3 1 0\n-3 -2 0\n3 -1 2 0\n3 0\n"},
		{circuit(2, 3, 5), 6, "p cnf 3 4\n-3 -1 0\n-3 -2 0\n3 1 2 0\n3 0\n"},
		// Gate by gate, in order.
		{circuit(2, 3, 5, 2, 4, 7, 9), 11, "p cnf 5 10\n-3 -1 0\n-3 -2 0\n3 1 2 0\n-4 1 0\n-4 2 0\n4 -1 -2 0\n-5 -3 0\n-5 -4 0\n5 3 4 0\n-5 0\n"},
		{circuit(2, 2, 4, 3, 5, 7, 9), 10, "p cnf 5 10\n-3 1 0\n-3 2 0\n3 -1 -2 0\n-4 -1 0\n-4 -2 0\n4 1 2 0\n-5 -3 0\n-5 -4 0\n5 3 4 0\n5 0\n"},
		{circuit(12, 23, 24), 27, "p cnf 13 4\n-13 -11 0\n-13 12 0\n13 11 -12 0\n-13 0\n"},
	} {
		checkTseitin(t, c.a, c.literal, c.text)
	}
}

// TestTseitinHasRoom: variables are what a circuit's formula may have too many of.
func TestTseitinHasRoom(t *testing.T) {
	for inputs := 2; inputs <= impl.MaxInputs; inputs++ {
		room := impl.MaxVars - inputs
		for _, literal := range []int{0, 1, 2, 2 * impl.MaxVars, 2*impl.MaxVars + 1} {
			f, code := impl.Tseitin(pairs(inputs, room), literal)
			want := 3*room + 1
			if literal == 1 {
				want--
			}
			if code != 0 || f.Vars != impl.MaxVars || len(f.Clauses) != want || !impl.CnfOK(f) {
				t.Errorf("Tseitin of %d inputs, %d gates: %d variables, %d clauses, code %d", inputs, room, f.Vars, len(f.Clauses), code)
			}
			for _, gates := range []int{room + 1, 100, impl.MaxEx} {
				if f, code := impl.Tseitin(pairs(inputs, gates), literal); code != impl.ErrSize || !isZeroCnf(f) {
					t.Errorf("Tseitin of %d inputs, %d gates: %s, code %d", inputs, gates, brief(f), code)
				}
			}
		}
	}
}

func TestTseitinFaults(t *testing.T) {
	for _, c := range []struct {
		a       impl.Aig
		literal int
		code    int
	}{
		{impl.Aig{}, 2, impl.ErrRange}, {impl.Aig{}, -1, impl.ErrRange}, {impl.Aig{}, 3, impl.ErrRange}, {circuit(2), 5, 0}, {circuit(2), 6, impl.ErrRange},
		{circuit(2, 2, 4), 7, 0}, {circuit(2, 2, 4), 8, impl.ErrRange}, {circuit(2, 2, 4), 9, impl.ErrRange}, {circuit(2, 2, 4), -2, impl.ErrRange},
		{circuit(2, 2, 4), math.MaxInt, impl.ErrRange}, {circuit(2, 2, 4), math.MinInt, impl.ErrRange},
		// ErrBad, then ErrRange, then ErrSize.
		{circuit(2, 4, 2), 99, impl.ErrBad}, {pairs(2, impl.MaxEx+1), 2, impl.ErrBad}, {pairs(2, impl.MaxEx+1), -1, impl.ErrBad},
		{pairs(2, impl.MaxEx), 2*(impl.MaxEx+2) + 2, impl.ErrRange}, {pairs(2, impl.MaxEx), 2*(impl.MaxEx+2) + 1, impl.ErrSize}, {pairs(2, impl.MaxEx), -1, impl.ErrRange},
	} {
		if f, code := impl.Tseitin(c.a, c.literal); code != c.code || code != 0 && !isZeroCnf(f) {
			t.Errorf("Tseitin(%s, %d) = %s, %d, not %d", brief(c.a), c.literal, brief(f), code, c.code)
		}
	}
}

// nodesOf are the values of all nodes but 0, as variables of the formula.
func nodesOf(t *testing.T, a impl.Aig, values []bool) []bool {
	t.Helper()
	var plain []int
	for node := 1; node <= a.Inputs+len(a.Gates); node++ {
		plain = append(plain, 2*node)
	}
	got, code := impl.EvalAig(a, plain, values)
	if code != 0 {
		t.Fatalf("EvalAig(%s, %v): code %d", brief(a), plain, code)
	}
	return got
}

// TestFormulaTellsWhatTheExpressionTells: of each values of the inputs, the nodes' values make the formula true just where the expression is, and no other values of the gates do.
func TestFormulaTellsWhatTheExpressionTells(t *testing.T) {
	r := chance()
	codes, count := map[int]int{}, map[bool]int{}
	for range 1500 {
		inputs := r.Intn(7)
		list := someList(r, inputs, 3, 150)
		a, literals, _ := impl.BuildAig(inputs, list)
		for i, e := range list[:len(literals)] {
			f, code := impl.Tseitin(a, literals[i])
			codes[code]++
			if room := inputs+len(a.Gates) <= impl.MaxVars; room != (code == 0) {
				t.Fatalf("Tseitin of %d inputs, %d gates: code %d", inputs, len(a.Gates), code)
			}
			for number := range 1 << inputs {
				if code != 0 {
					break
				}
				values := valuesOf(number, inputs)
				want := slowValue(e, values) == 1
				count[want]++
				nodes := nodesOf(t, a, values)
				if got, code := impl.EvalCnf(f, nodes); code != 0 || got != want {
					t.Fatalf("%s of %v is %v, its formula tells %v, %d", brief(e), values, want, got, code)
				}
				for gate := inputs; gate < len(nodes); gate++ {
					nodes[gate] = !nodes[gate]
					if got, code := impl.EvalCnf(f, nodes); code != 0 || got {
						t.Fatalf("%s of %v: its formula is true of a gate's wrong value", brief(e), values)
					}
					nodes[gate] = !nodes[gate]
				}
			}
		}
	}
	if codes[0] < 1000 || codes[impl.ErrSize] < 50 || count[false] < 5000 || count[true] < 5000 {
		t.Errorf("codes %v, values %v: the test tells nothing", codes, count)
	}
}

// TestModelsOfTheFormula: there is one for each values by which the expression is true, and the least one is of the least of these.
func TestModelsOfTheFormula(t *testing.T) {
	r := chance()
	counted, without := 0, 0
	for range 3000 {
		inputs := r.Intn(6)
		e := someEx(r, inputs, 1+r.Intn(40), 6)
		a, literals, _ := impl.BuildAig(inputs, []impl.Ex{e})
		f, code := impl.Tseitin(a, literals[0])
		if code != 0 {
			continue
		}
		models, least := 0, []bool(nil)
		for number := range 1 << inputs {
			// The first variable counts most.
			values := make([]bool, inputs)
			for i := range values {
				values[i] = number>>(inputs-1-i)&1 == 1
			}
			if slowValue(e, values) == 1 {
				models++
				if models == 1 {
					least = values
				}
			}
		}
		model, code := impl.LeastModel(f)
		if models == 0 {
			without++
			if code != impl.ErrNone {
				t.Fatalf("%s is never true, and its formula has a model: %v, %d", brief(e), model, code)
			}
		} else if code != 0 || !sameValues(model[:inputs], least) || !sameValues(model, nodesOf(t, a, least)) {
			t.Fatalf("%s: the least model is %v, %d, not of %v", brief(e), model, code, least)
		}
		if f.Vars <= impl.MaxCount {
			counted++
			if got, code := impl.CountModels(f); code != 0 || got != models {
				t.Fatalf("%s: %d models, code %d, not %d", brief(e), got, code, models)
			}
		}
	}
	if counted < 500 || without < 100 {
		t.Errorf("%d counted, %d without a model: the test tells nothing", counted, without)
	}
}
