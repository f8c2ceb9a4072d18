package tests

import (
	"math"
	"math/rand"
	"testing"

	"loop.example/g00159/impl"
)

// Tests of promise 5: circuits, which are right, their values, and how expressions are built.

func isZeroAig(a impl.Aig) bool {
	return a.Inputs == 0 && len(a.Gates) == 0
}

func sameAig(a, b impl.Aig) bool {
	if a.Inputs != b.Inputs || len(a.Gates) != len(b.Gates) {
		return false
	}
	for i := range a.Gates {
		if a.Gates[i] != b.Gates[i] {
			return false
		}
	}
	return true
}

// circuit has inputs and gates of two literals each.
func circuit(inputs int, literals ...int) impl.Aig {
	a := impl.Aig{Inputs: inputs}
	for i := 0; i < len(literals); i += 2 {
		a.Gates = append(a.Gates, impl.Gate{A: literals[i], B: literals[i+1]})
	}
	return a
}

// pairs are as many gates of inputs and gates ahead, each once, as are asked for.
func pairs(inputs, count int) impl.Aig {
	a := impl.Aig{Inputs: inputs}
	for node := 2; len(a.Gates) < count; node++ {
		for low := 1; low < node && len(a.Gates) < count; low++ {
			a.Gates = append(a.Gates, impl.Gate{A: 2 * low, B: 2 * node})
		}
	}
	return a
}

func TestAigOK(t *testing.T) {
	for _, a := range []impl.Aig{
		{}, {Gates: []impl.Gate{}}, circuit(1), circuit(12),
		circuit(2, 2, 4), circuit(2, 2, 5), circuit(2, 3, 4), circuit(2, 3, 5),
		circuit(2, 2, 4, 2, 5, 3, 4, 3, 5), circuit(2, 3, 5, 2, 4), circuit(2, 2, 4, 2, 6, 7, 9), circuit(2, 2, 4, 5, 7),
		circuit(12, 2, 25, 23, 24, 25, 29), circuit(3, 4, 6, 2, 8, 5, 9),
		pairs(2, impl.MaxEx), pairs(12, impl.MaxEx),
	} {
		if !impl.AigOK(a) {
			t.Errorf("AigOK(%s) is false", brief(a))
		}
		if _, code := impl.EvalAig(a, nil, make([]bool, a.Inputs)); code != 0 {
			t.Errorf("EvalAig(%s): code %d", brief(a), code)
		}
	}
}

func wrongCircuits() []impl.Aig {
	return []impl.Aig{
		{Inputs: -1}, {Inputs: 13}, {Inputs: math.MinInt}, {Inputs: math.MaxInt}, {Inputs: 1 << 32},
		// Of the constants.
		circuit(2, 0, 2), circuit(2, 1, 2), circuit(2, 0, 1), circuit(2, 1, 4), circuit(2, -2, 4), circuit(2, -1, 2), circuit(2, math.MinInt, 2),
		// Not rising, or of one node.
		circuit(2, 4, 2), circuit(2, 5, 2), circuit(2, 2, 2), circuit(2, 3, 3), circuit(2, 2, 3), circuit(2, 3, 2), circuit(2, 4, 5), circuit(2, 5, 4),
		// Of a node that is not ahead.
		circuit(0, 2, 4), circuit(1, 2, 4), circuit(1, 2, 3), circuit(2, 2, 6), circuit(2, 2, 7), circuit(2, 2, 8), circuit(2, 6, 8), circuit(2, 2, math.MaxInt),
		circuit(2, math.MaxInt-2, math.MaxInt), circuit(2, 2, 4, 2, 8), circuit(2, 2, 4, 2, 9), circuit(2, 2, 4, 8, 10), circuit(2, 2, 8, 2, 4), circuit(12, 2, 26),
		circuit(2, 0, 0), circuit(2, 2, 4, 6, 7), circuit(2, 2, 4, 7, 7),
		// Two alike.
		circuit(2, 2, 4, 2, 4), circuit(3, 2, 4, 2, 6, 2, 4), circuit(2, 3, 5, 2, 4, 3, 5), circuit(2, 2, 4, 2, 6, 4, 6, 2, 6),
		// Too many.
		pairs(12, impl.MaxEx+1), pairs(2, impl.MaxList+1),
	}
}

func TestWrongCircuits(t *testing.T) {
	for _, a := range wrongCircuits() {
		if impl.AigOK(a) {
			t.Errorf("AigOK(%s) is true", brief(a))
		}
		for _, values := range [][]bool{nil, {true, false}, make([]bool, 50)} {
			for _, literals := range [][]int{nil, {1}, {-1}, {math.MaxInt}} {
				if got, code := impl.EvalAig(a, literals, values); code != impl.ErrBad || len(got) != 0 {
					t.Errorf("EvalAig(%s, %v, %v) = %v, %d", brief(a), literals, values, got, code)
				}
			}
		}
		for _, literal := range []int{0, 1, 2, -1, math.MaxInt} {
			if f, code := impl.Tseitin(a, literal); code != impl.ErrBad || !isZeroCnf(f) {
				t.Errorf("Tseitin(%s, %d) = %s, %d", brief(a), literal, brief(f), code)
			}
		}
	}
	last := pairs(12, impl.MaxEx)
	last.Gates[impl.MaxEx-1] = last.Gates[0]
	if impl.AigOK(last) {
		t.Error("the last of MaxEx gates is the first one, and AigOK is true")
	}
}

// slowAigOK says it as the document does.
func slowAigOK(a impl.Aig) bool {
	right := 0 <= a.Inputs && a.Inputs <= 12 && len(a.Gates) <= 400
	for i, g := range a.Gates {
		ahead := func(literal int) bool { return literal/2 < 1+a.Inputs+i }
		right = right && g.A >= 2 && g.A < g.B && g.A/2 != g.B/2 && ahead(g.A) && ahead(g.B)
		for j := range i {
			right = right && g != a.Gates[j]
		}
	}
	return right
}

func TestAigOKWordByWord(t *testing.T) {
	r := chance()
	right := 0
	for range 200000 {
		a := impl.Aig{Inputs: r.Intn(5)}
		if r.Intn(20) == 0 {
			a.Inputs = -1 + r.Intn(15)
		}
		for i := range r.Intn(6) {
			most := 2*(a.Inputs+i) + 3
			g := impl.Gate{A: 1 + r.Intn(most), B: 1 + r.Intn(most)}
			if g.A > g.B && r.Intn(10) > 0 {
				g.A, g.B = g.B, g.A
			}
			a.Gates = append(a.Gates, g)
		}
		want := slowAigOK(a)
		if got := impl.AigOK(a); got != want {
			t.Fatalf("AigOK(%v) is %v", a, got)
		}
		if want && len(a.Gates) > 1 {
			right++
		}
	}
	if right < 3000 {
		t.Errorf("only %d right circuits with gates: the test tells nothing", right)
	}
}

func TestEvalAig(t *testing.T) {
	a := circuit(2, 2, 5, 3, 4, 7, 9)
	literals := []int{0, 1, 2, 3, 4, 5, 6, 7, 8, 9, 10, 11, 1, 0, 11, 11}
	for number := range 4 {
		v := valuesOf(number, 2)
		p, q := v[0], v[1]
		both := p == q
		want := []bool{false, true, p, !p, q, !q, p && !q, !p || q, !p && q, p || !q, both, !both, true, false, !both, !both}
		if got, code := impl.EvalAig(a, literals, v); code != 0 || !sameValues(got, want) {
			t.Errorf("EvalAig of %v: %v, %d, not %v", v, got, code, want)
		}
	}
	if got, code := impl.EvalAig(a, nil, []bool{true, true}); code != 0 || len(got) != 0 {
		t.Error("EvalAig of no literals", got, code)
	}
	if got, code := impl.EvalAig(impl.Aig{}, []int{1, 0}, nil); code != 0 || !sameValues(got, []bool{true, false}) {
		t.Error("EvalAig of a circuit without nodes of its own", got, code)
	}
	if got, code := impl.EvalAig(circuit(12), []int{24, 25}, append(make([]bool, 11), true)); code != 0 || !sameValues(got, []bool{true, false}) {
		t.Error("EvalAig of the last input", got, code)
	}
}

func TestEvalAigFaults(t *testing.T) {
	a, wrong := circuit(2, 2, 5, 3, 4), circuit(2, 4, 2)
	for _, c := range []struct {
		a        impl.Aig
		literals []int
		values   int
		code     int
	}{
		{a, []int{9}, 2, 0}, {a, []int{10}, 2, impl.ErrRange}, {a, []int{11}, 2, impl.ErrRange}, {a, []int{-1}, 2, impl.ErrRange}, {a, []int{-2}, 2, impl.ErrRange},
		{a, []int{math.MinInt}, 2, impl.ErrRange}, {a, []int{math.MaxInt}, 2, impl.ErrRange}, {a, []int{1, 2, 3, 10}, 2, impl.ErrRange}, {a, []int{-1, 2, 3}, 2, impl.ErrRange},
		{a, nil, 1, impl.ErrRange}, {a, nil, 3, impl.ErrRange}, {a, nil, 0, impl.ErrRange}, {a, []int{1}, 1, impl.ErrRange}, {a, []int{99}, 3, impl.ErrRange},
		{impl.Aig{}, []int{1}, 0, 0}, {impl.Aig{}, []int{2}, 0, impl.ErrRange}, {impl.Aig{}, nil, 1, impl.ErrRange},
		{wrong, []int{99}, 7, impl.ErrBad},
		// ErrLong is told ahead of all.
		{a, repeated(9, impl.MaxList), 2, 0}, {a, repeated(9, impl.MaxList+1), 2, impl.ErrLong}, {a, nil, impl.MaxList, impl.ErrRange}, {a, nil, impl.MaxList + 1, impl.ErrLong},
		{wrong, repeated(9, impl.MaxList), 2, impl.ErrBad}, {wrong, repeated(9, impl.MaxList+1), 2, impl.ErrLong},
		{wrong, nil, impl.MaxList, impl.ErrBad}, {wrong, nil, impl.MaxList + 1, impl.ErrLong}, {a, repeated(-1, impl.MaxList+1), 0, impl.ErrLong},
	} {
		got, code := impl.EvalAig(c.a, c.literals, make([]bool, c.values))
		if code != c.code || code != 0 && len(got) != 0 || code == 0 && len(got) != len(c.literals) {
			t.Errorf("EvalAig(%v) of %d literals, %d values: %d values, code %d, not %d", c.a, len(c.literals), c.values, len(got), code, c.code)
		}
	}
}

func checkBuild(t *testing.T, inputs int, list []impl.Ex, want impl.Aig, wantLiterals []int) {
	t.Helper()
	a, literals, code := impl.BuildAig(inputs, list)
	if code != 0 || !sameAig(a, want) || !sameList(literals, wantLiterals) {
		t.Fatalf("BuildAig(%d, %s) = %s, %s, %d, not %s, %s", inputs, brief(list), brief(a), brief(literals), code, brief(want), brief(wantLiterals))
	}
}

// TestBuildOneExpression has three inputs: literals 2, 4 and 6; the first gate is literal 8.
func TestBuildOneExpression(t *testing.T) {
	a, b, c, no, yes := variable(0), variable(1), variable(2), constant(0), constant(1)
	for _, row := range []struct {
		e       impl.Ex
		literal int
		gates   []int
	}{
		{a, 2, nil}, {c, 6, nil}, {no, 0, nil}, {yes, 1, nil}, {not(a), 3, nil}, {not(not(b)), 4, nil}, {not(no), 1, nil}, {not(yes), 0, nil},
		// The lesser first.
		{and(a, b), 8, []int{2, 4}}, {and(b, a), 8, []int{2, 4}}, {and(not(a), b), 8, []int{3, 4}}, {and(b, not(a)), 8, []int{3, 4}}, {and(a, not(b)), 8, []int{2, 5}},
		{or(a, b), 9, []int{3, 5}}, {or(b, a), 9, []int{3, 5}}, {or(not(a), b), 9, []int{2, 5}}, {not(or(a, b)), 8, []int{3, 5}},
		// One is 0 or 1.
		{and(no, a), 0, nil}, {and(a, no), 0, nil}, {and(yes, a), 2, nil}, {and(a, yes), 2, nil}, {and(no, no), 0, nil}, {and(no, yes), 0, nil}, {and(yes, no), 0, nil}, {and(yes, yes), 1, nil},
		{or(no, a), 2, nil}, {or(a, no), 2, nil}, {or(yes, a), 1, nil}, {or(a, yes), 1, nil}, {or(no, no), 0, nil}, {or(no, yes), 1, nil}, {or(yes, yes), 1, nil},
		// Both are one, or opposites.
		{and(a, a), 2, nil}, {and(not(a), not(a)), 3, nil}, {and(a, not(a)), 0, nil}, {and(not(a), a), 0, nil},
		{or(a, a), 2, nil}, {or(not(b), not(b)), 5, nil}, {or(a, not(a)), 1, nil}, {or(not(a), a), 1, nil},
		// ExXor: what is made first.
		{xor(a, b), 13, []int{2, 5, 3, 4, 9, 11}}, {xor(b, a), 13, []int{3, 4, 2, 5, 9, 11}}, {xor(not(a), b), 13, []int{3, 5, 2, 4, 9, 11}},
		{xor(a, no), 2, nil}, {xor(no, a), 2, nil}, {xor(a, yes), 3, nil}, {xor(yes, a), 3, nil}, {xor(a, a), 0, nil}, {xor(a, not(a)), 1, nil}, {xor(not(a), a), 1, nil},
		{xor(no, no), 0, nil}, {xor(no, yes), 1, nil}, {xor(yes, no), 1, nil}, {xor(yes, yes), 0, nil},
		// ExIte: what is made first.
		{ite(a, b, c), 13, []int{2, 4, 3, 6, 9, 11}}, {ite(c, b, a), 13, []int{4, 6, 2, 7, 9, 11}}, {ite(not(a), b, c), 13, []int{3, 4, 2, 6, 9, 11}},
		{ite(yes, a, b), 2, nil}, {ite(no, a, b), 4, nil}, {ite(a, yes, no), 2, nil}, {ite(a, no, yes), 3, nil}, {ite(a, yes, yes), 1, nil}, {ite(a, no, no), 0, nil},
		{ite(a, b, b), 13, []int{2, 4, 3, 4, 9, 11}}, {ite(a, a, a), 2, nil}, {ite(a, not(a), a), 0, nil}, {ite(a, a, not(a)), 1, nil},
		{ite(a, b, no), 8, []int{2, 4}}, {ite(a, no, b), 8, []int{3, 4}}, {ite(a, b, yes), 11, []int{2, 4, 2, 9}}, {ite(a, yes, b), 11, []int{3, 4, 3, 9}}, {ite(a, b, a), 8, []int{2, 4}}, {ite(a, a, b), 11, []int{3, 4, 3, 9}},
		// Kid by Kid, in order, then itself.
		{and(and(b, c), and(a, b)), 12, []int{4, 6, 2, 4, 8, 10}}, {and(and(a, b), and(b, c)), 12, []int{2, 4, 4, 6, 8, 10}},
		{or(and(c, a), not(or(b, a))), 13, []int{2, 6, 3, 5, 9, 11}}, {xor(or(a, b), c), 15, []int{3, 5, 7, 9, 6, 8, 11, 13}},
		{ite(and(b, c), and(a, c), and(a, b)), 19, []int{4, 6, 2, 6, 2, 4, 8, 10, 9, 12, 15, 17}},
		// A gate that is there already, whichever way round.
		{and(and(a, b), and(b, a)), 8, []int{2, 4}}, {or(and(a, b), and(a, b)), 8, []int{2, 4}}, {and(and(a, b), not(and(b, a))), 0, []int{2, 4}},
		{or(xor(a, b), xor(b, a)), 13, []int{2, 5, 3, 4, 9, 11}}, {and(or(a, b), and(not(b), not(a))), 0, []int{3, 5}}, {xor(xor(a, b), xor(a, b)), 0, []int{2, 5, 3, 4, 9, 11}},
		// What is made of the Kids stays, though nothing asks for it.
		{and(no, and(a, b)), 0, []int{2, 4}}, {ite(yes, a, and(b, c)), 2, []int{4, 6}}, {ite(no, and(b, c), a), 2, []int{4, 6}}, {and(xor(a, b), no), 0, []int{2, 5, 3, 4, 9, 11}},
	} {
		checkBuild(t, 3, []impl.Ex{row.e}, circuit(3, row.gates...), []int{row.literal})
	}
}

func TestBuildLists(t *testing.T) {
	a, b, c := variable(0), variable(1), variable(2)
	for inputs := range impl.MaxInputs + 1 {
		checkBuild(t, inputs, nil, circuit(inputs), nil)
		checkBuild(t, inputs, []impl.Ex{constant(1), constant(0), constant(1)}, circuit(inputs), []int{1, 0, 1})
	}
	checkBuild(t, 1, []impl.Ex{a, not(a), or(a, not(a))}, circuit(1), []int{2, 3, 1})
	checkBuild(t, 12, []impl.Ex{variable(11), and(variable(11), a)}, circuit(12, 2, 24), []int{24, 26})
	checkBuild(t, 3, []impl.Ex{and(a, b), and(b, c), and(b, a), and(b, c)}, circuit(3, 2, 4, 4, 6), []int{8, 10, 8, 10})
	checkBuild(t, 3, []impl.Ex{and(b, c), and(a, b)}, circuit(3, 4, 6, 2, 4), []int{8, 10})
	checkBuild(t, 2, []impl.Ex{or(a, b), xor(a, b), and(not(b), not(a)), xor(b, a)}, circuit(2, 3, 5, 2, 5, 3, 4, 9, 11), []int{7, 13, 6, 13})
	checkBuild(t, 3, []impl.Ex{ite(a, b, c), and(not(a), c), xor(and(a, b), and(c, not(a)))}, circuit(3, 2, 4, 3, 6, 9, 11, 8, 11, 9, 10, 15, 17), []int{13, 10, 19})
	many := make([]impl.Ex, impl.MaxList)
	for i := range many {
		many[i] = []impl.Ex{or(a, b), or(b, a)}[i%2]
	}
	checkBuild(t, 2, many, circuit(2, 3, 5), repeated(7, impl.MaxList))
}

func TestBuildFaults(t *testing.T) {
	a, b, wrong := variable(0), variable(1), node(0)
	long := make([]impl.Ex, impl.MaxList+1)
	for i := range long {
		long[i] = a
	}
	for _, c := range []struct {
		inputs int
		list   []impl.Ex
		code   int
	}{
		{-1, nil, impl.ErrRange}, {13, nil, impl.ErrRange}, {math.MinInt, nil, impl.ErrRange}, {math.MaxInt, nil, impl.ErrRange},
		{0, []impl.Ex{a}, impl.ErrRange}, {1, []impl.Ex{a}, 0}, {1, []impl.Ex{b}, impl.ErrRange}, {2, []impl.Ex{b}, 0}, {11, []impl.Ex{variable(11)}, impl.ErrRange},
		{12, []impl.Ex{variable(12)}, impl.ErrBad}, {12, []impl.Ex{wrong}, impl.ErrBad}, {1, []impl.Ex{a, a, not(wrong)}, impl.ErrBad}, {1, []impl.Ex{a, a, not(b)}, impl.ErrRange},
		// It has the variable, though no gate does.
		{1, []impl.Ex{and(constant(0), b)}, impl.ErrRange}, {1, []impl.Ex{ite(a, a, b)}, impl.ErrRange}, {1, []impl.Ex{xor(b, b)}, impl.ErrRange},
		// inputs ahead of the list.
		{-1, []impl.Ex{wrong}, impl.ErrRange}, {13, []impl.Ex{wrong}, impl.ErrRange},
		// The first at fault tells the code; of one, ErrBad goes ahead.
		{1, []impl.Ex{b, wrong}, impl.ErrRange}, {1, []impl.Ex{wrong, b}, impl.ErrBad}, {1, []impl.Ex{a, b, wrong}, impl.ErrRange}, {1, []impl.Ex{a, wrong, b}, impl.ErrBad},
		{1, []impl.Ex{and(b, wrong)}, impl.ErrBad}, {1, []impl.Ex{and(wrong, b)}, impl.ErrBad}, {0, []impl.Ex{deep(impl.MaxDepth+1, a)}, impl.ErrBad}, {0, []impl.Ex{deep(impl.MaxDepth, a)}, impl.ErrRange},
		// ErrLong is told ahead of all.
		{1, long[:impl.MaxList], 0}, {1, long, impl.ErrLong}, {-1, long[:impl.MaxList], impl.ErrRange}, {-1, long, impl.ErrLong}, {0, long[:impl.MaxList], impl.ErrRange}, {0, long, impl.ErrLong},
		{1, make([]impl.Ex, impl.MaxList), impl.ErrBad}, {1, make([]impl.Ex, impl.MaxList+1), impl.ErrLong},
	} {
		aig, literals, code := impl.BuildAig(c.inputs, c.list)
		if code != c.code || code != 0 && (!isZeroAig(aig) || len(literals) != 0) {
			t.Errorf("BuildAig of %d inputs, %d expressions: %s, %d literals, code %d, not %d", c.inputs, len(c.list), brief(aig), len(literals), code, c.code)
		}
	}
}

// oneGateEach are expressions of which each makes just one gate more.
func oneGateEach(inputs, count int) []impl.Ex {
	var list []impl.Ex
	for high := range inputs {
		for low := range high {
			list = append(list, and(variable(low), variable(high)))
		}
	}
	for _, pair := range list {
		for n := range inputs {
			list = append(list, and(pair, not(variable(n))))
		}
	}
	return list[:count]
}

func TestHowManyGates(t *testing.T) {
	list := oneGateEach(12, impl.MaxEx+2)
	for _, count := range []int{1, 66, 67, impl.MaxEx - 1, impl.MaxEx} {
		a, literals, code := impl.BuildAig(12, list[:count])
		if code != 0 || len(a.Gates) != count || !impl.AigOK(a) || len(literals) != count || literals[count-1] != 2*(12+count) {
			t.Fatal("expressions of a gate each", count, len(a.Gates), len(literals), code)
		}
	}
	full, one := list[:impl.MaxEx:impl.MaxEx], list[impl.MaxEx]
	for _, c := range []struct {
		behind []impl.Ex
		code   int
	}{
		// What is there already, or makes no gate, has room.
		{[]impl.Ex{full[0], constant(1), variable(11), and(full[9], full[9]), or(full[9], not(full[9])), full[impl.MaxEx-1]}, 0},
		{[]impl.Ex{one}, impl.ErrSize}, {[]impl.Ex{constant(0), one}, impl.ErrSize}, {[]impl.Ex{one, constant(0)}, impl.ErrSize}, {[]impl.Ex{one, list[impl.MaxEx+1]}, impl.ErrSize},
		{[]impl.Ex{xor(full[0], full[1])}, impl.ErrSize}, {[]impl.Ex{and(one, constant(0))}, impl.ErrSize}, {[]impl.Ex{ite(constant(1), full[0], one)}, impl.ErrSize},
		// Faults of what stands behind are told ahead of it.
		{[]impl.Ex{one, node(0)}, impl.ErrBad}, {[]impl.Ex{one, one, variable(12)}, impl.ErrBad}, {[]impl.Ex{deep(impl.MaxDepth+1, one)}, impl.ErrBad},
	} {
		a, literals, code := impl.BuildAig(12, append(full, c.behind...))
		if code != c.code || code != 0 && (!isZeroAig(a) || len(literals) != 0) || code == 0 && len(a.Gates) != impl.MaxEx {
			t.Errorf("MaxEx gates and %s: %d gates, %d literals, code %d", brief(c.behind), len(a.Gates), len(literals), code)
		}
	}
	more := oneGateEach(11, impl.MaxEx+1)
	if _, _, code := impl.BuildAig(11, more); code != impl.ErrSize {
		t.Error("more than MaxEx gates of 11 inputs", code)
	}
	if _, _, code := impl.BuildAig(11, append(more, variable(11))); code != impl.ErrRange {
		t.Error("a variable that is none behind more than MaxEx gates", code)
	}
}

// manyXors is a tree of as many ExXor, which make three gates each where nothing is there already.
func manyXors(r *rand.Rand, inputs, count int) impl.Ex {
	if count == 0 {
		return variable(r.Intn(inputs))
	}
	left := (count - 1) / 2
	return xor(manyXors(r, inputs, left), manyXors(r, inputs, count-1-left))
}

func TestOneExpressionWithTooManyGates(t *testing.T) {
	e := manyXors(chance(), 12, (impl.MaxEx-1)/2)
	c := &slowCircuit{inputs: 12}
	if c.build(e); len(c.gates) <= impl.MaxEx {
		t.Fatalf("only %d gates: the test tells nothing", len(c.gates))
	}
	if !impl.ExOK(e) {
		t.Error("an expression that makes too many gates is not right")
	}
	if a, literals, code := impl.BuildAig(12, []impl.Ex{e}); code != impl.ErrSize || !isZeroAig(a) || len(literals) != 0 {
		t.Error("BuildAig of it", len(a.Gates), len(literals), code)
	}
}

// slowCircuit does, word by word, what the document says.
type slowCircuit struct {
	inputs int
	gates  []impl.Gate
}

func (c *slowCircuit) and(a, b int) int {
	if b < a {
		a, b = b, a
	}
	if a == 0 {
		return 0
	}
	if a == 1 || a == b {
		return b
	}
	if a/2 == b/2 {
		return 0
	}
	for i, g := range c.gates {
		if g.A == a && g.B == b {
			return 2 * (1 + c.inputs + i)
		}
	}
	c.gates = append(c.gates, impl.Gate{A: a, B: b})
	return 2 * (c.inputs + len(c.gates))
}

func turned(literal int) int {
	if literal%2 == 0 {
		return literal + 1
	}
	return literal - 1
}

func (c *slowCircuit) or(a, b int) int {
	return turned(c.and(turned(a), turned(b)))
}

func (c *slowCircuit) build(e impl.Ex) int {
	var k []int
	for _, kid := range e.Kids {
		k = append(k, c.build(kid))
	}
	switch e.Kind {
	case impl.ExVar:
		return 2*e.N + 2
	case impl.ExConst:
		return e.N
	case impl.ExNot:
		return turned(k[0])
	case impl.ExAnd:
		return c.and(k[0], k[1])
	case impl.ExOr:
		return c.or(k[0], k[1])
	case impl.ExXor:
		made := c.and(k[0], turned(k[1]))
		return c.or(made, c.and(turned(k[0]), k[1]))
	}
	made := c.and(k[0], k[1])
	return c.or(made, c.and(turned(k[0]), k[2]))
}

func someList(r *rand.Rand, inputs, count, nodes int) []impl.Ex {
	var list []impl.Ex
	for range r.Intn(count + 1) {
		list = append(list, someEx(r, inputs, 1+r.Intn(nodes), 1+r.Intn(impl.MaxDepth)))
	}
	return list
}

func TestBuildWordByWord(t *testing.T) {
	r := chance()
	codes, gates := map[int]int{}, 0
	for i := range 4000 {
		inputs := r.Intn(impl.MaxInputs + 1)
		list := someList(r, inputs, 8, impl.MaxEx)
		if i%8 == 0 && inputs > 0 {
			list = append(list, manyXors(r, inputs, r.Intn(impl.MaxEx/2)), manyXors(r, inputs, r.Intn(impl.MaxEx/2)))
		}
		c := &slowCircuit{inputs: inputs}
		var want []int
		for _, e := range list {
			want = append(want, c.build(e))
		}
		a, literals, code := impl.BuildAig(inputs, list)
		codes[code]++
		if len(c.gates) > impl.MaxEx {
			if code != impl.ErrSize || !isZeroAig(a) || len(literals) != 0 {
				t.Fatalf("%d gates: %s, %s, %d", len(c.gates), brief(a), brief(literals), code)
			}
			continue
		}
		if code != 0 || !sameAig(a, impl.Aig{Inputs: inputs, Gates: c.gates}) || !sameList(literals, want) || !impl.AigOK(a) {
			t.Fatalf("BuildAig(%d, %s) = %s, %s, %d, not %s, %s", inputs, brief(list), brief(a), brief(literals), code, brief(c.gates), brief(want))
		}
		gates += len(a.Gates)
	}
	if codes[0] < 2000 || codes[impl.ErrSize] < 100 || gates < 50000 {
		t.Errorf("codes %v, %d gates: the test tells nothing", codes, gates)
	}
}

// TestCircuitsTellWhatExpressionsTell holds them against each other over all values.
func TestCircuitsTellWhatExpressionsTell(t *testing.T) {
	r := chance()
	count := map[bool]int{}
	for range 800 {
		inputs := r.Intn(8)
		list := someList(r, inputs, 5, 120)
		a, literals, code := impl.BuildAig(inputs, list)
		if code != 0 {
			continue
		}
		for number := range 1 << inputs {
			values := valuesOf(number, inputs)
			got, code := impl.EvalAig(a, literals, values)
			if code != 0 || len(got) != len(list) {
				t.Fatalf("EvalAig(%s, %s, %v) = %v, %d", brief(a), brief(literals), values, got, code)
			}
			for i, e := range list {
				want := slowValue(e, values) == 1
				count[want]++
				if got[i] != want {
					t.Fatalf("%s of %v is %v, its circuit tells %v", brief(e), values, want, got[i])
				}
			}
		}
	}
	if count[false] < 5000 || count[true] < 5000 {
		t.Errorf("%v values: the test tells nothing", count)
	}
}
