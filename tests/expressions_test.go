package tests

import (
	"math"
	"math/rand"
	"testing"

	"loop.example/g00159/impl"
)

// Tests of promise 5: expressions, which are right, and their values.

func variable(n int) impl.Ex { return impl.Ex{Kind: impl.ExVar, N: n} }

func constant(n int) impl.Ex { return impl.Ex{Kind: impl.ExConst, N: n} }

func node(kind int, kids ...impl.Ex) impl.Ex { return impl.Ex{Kind: kind, Kids: kids} }

func not(a impl.Ex) impl.Ex { return node(impl.ExNot, a) }

func and(a, b impl.Ex) impl.Ex { return node(impl.ExAnd, a, b) }

func or(a, b impl.Ex) impl.Ex { return node(impl.ExOr, a, b) }

func xor(a, b impl.Ex) impl.Ex { return node(impl.ExXor, a, b) }

func ite(c, a, b impl.Ex) impl.Ex { return node(impl.ExIte, c, a, b) }

// deep is as many nodes deep, and has no more.
func deep(depth int, end impl.Ex) impl.Ex {
	for range depth - 1 {
		end = not(end)
	}
	return end
}

// sized has just so many nodes, and is no deeper than it must be.
func sized(nodes int) impl.Ex {
	switch nodes {
	case 1:
		return variable(0)
	case 2:
		return not(variable(1))
	}
	half := (nodes - 1) / 2
	return and(sized(half), sized(nodes-1-half))
}

// rounds is among its own Kids.
func rounds(kind, kids int) impl.Ex {
	list := make([]impl.Ex, kids)
	for i := range list {
		list[i] = impl.Ex{Kind: kind, Kids: list}
	}
	return list[0]
}

// doubled has 2 to so many less 1 nodes, but for a few lists.
func doubled(times int) impl.Ex {
	e := variable(0)
	for range times - 1 {
		e = and(e, e)
	}
	return e
}

func checkEx(t *testing.T, who string, e impl.Ex, want bool) {
	t.Helper()
	if impl.ExOK(e) != want {
		t.Errorf("ExOK of %s is %v", who, !want)
	}
	code := impl.ErrBad
	if want {
		code = 0
	}
	if _, got := impl.EvalEx(e, make([]bool, impl.MaxInputs)); got != code {
		t.Errorf("EvalEx of %s: code %d", who, got)
	}
	if a, literals, got := impl.BuildAig(impl.MaxInputs, []impl.Ex{e}); got != code || got != 0 && (!isZeroAig(a) || len(literals) != 0) {
		t.Errorf("BuildAig of %s: %s, %s, code %d", who, brief(a), brief(literals), got)
	}
}

func TestRightExpressions(t *testing.T) {
	a, b, c := variable(0), variable(11), variable(5)
	for _, e := range []impl.Ex{
		a, b, c, constant(0), constant(1), not(a), and(a, b), or(a, b), xor(a, b), ite(a, b, c),
		and(a, a), ite(constant(0), constant(1), not(not(c))),
		{Kind: impl.ExVar, Kids: []impl.Ex{}},
	} {
		checkEx(t, "a right expression", e, true)
	}
}

func wrongExpressions() []impl.Ex {
	a := variable(0)
	wrong := []impl.Ex{
		{}, {N: 1}, {Kids: []impl.Ex{a}}, variable(-1), variable(12), variable(math.MaxInt), variable(math.MinInt),
		constant(-1), constant(2), constant(math.MaxInt), constant(math.MinInt),
		node(impl.ExVar, a), node(impl.ExConst, a), node(impl.ExVar, a, a), {Kind: impl.ExConst, N: 1, Kids: []impl.Ex{a}},
		node(impl.ExNot), node(impl.ExNot, a, a), node(impl.ExNot, a, a, a),
		node(impl.ExIte), node(impl.ExIte, a), node(impl.ExIte, a, a), node(impl.ExIte, a, a, a, a),
	}
	for _, kind := range []int{-1, 0, 8, 9, -3, math.MaxInt, math.MinInt, 1 << 32, 1<<32 + impl.ExVar} {
		for kids := range 4 {
			wrong = append(wrong, node(kind, []impl.Ex{a, a, a}[:kids]...))
		}
	}
	for _, kind := range []int{impl.ExAnd, impl.ExOr, impl.ExXor} {
		wrong = append(wrong, node(kind), node(kind, a), node(kind, a, a, a))
	}
	for _, n := range []int{-1, 1, 2, math.MinInt, math.MaxInt} {
		for _, e := range []impl.Ex{not(a), and(a, a), or(a, a), xor(a, a), ite(a, a, a)} {
			e.N = n
			wrong = append(wrong, e)
		}
	}
	return wrong
}

func TestWrongExpressions(t *testing.T) {
	a := variable(0)
	for _, e := range wrongExpressions() {
		checkEx(t, "a wrong expression", e, false)
		for _, within := range []impl.Ex{not(e), and(e, a), and(a, e), or(e, a), or(a, e), xor(a, e), ite(e, a, a), ite(a, e, a), ite(a, a, e), ite(a, a, not(xor(not(e), a)))} {
			checkEx(t, "one with a wrong one within", within, false)
		}
	}
}

func TestHowManyNodes(t *testing.T) {
	most, more := sized(impl.MaxEx), sized(impl.MaxEx+1)
	checkEx(t, "MaxEx nodes", most, true)
	checkEx(t, "MaxEx nodes and one more", more, false)
	checkEx(t, "MaxEx nodes below an ExNot", not(most), false)
	checkEx(t, "many more nodes", sized(5000), false)
	half := sized(impl.MaxEx/2 - 1)
	checkEx(t, "two halves", or(half, sized(impl.MaxEx/2)), true)
	checkEx(t, "two halves and one more", or(half, sized(impl.MaxEx/2+1)), false)
	third := sized(133)
	checkEx(t, "three thirds", ite(third, third, third), true)
	for _, e := range []impl.Ex{ite(sized(134), third, third), ite(third, sized(134), third), ite(third, third, sized(134))} {
		checkEx(t, "three thirds and one more", e, false)
	}
}

func TestHowDeep(t *testing.T) {
	a := variable(0)
	most, more := deep(impl.MaxDepth, a), deep(impl.MaxDepth+1, a)
	checkEx(t, "MaxDepth deep", most, true)
	checkEx(t, "one deeper", more, false)
	checkEx(t, "MaxDepth deep, with a constant at its end", deep(impl.MaxDepth, constant(1)), true)
	checkEx(t, "one deeper, with a constant at its end", deep(impl.MaxDepth+1, constant(1)), false)
	below := deep(impl.MaxDepth-1, a)
	for _, e := range []impl.Ex{and(a, below), and(below, a), and(below, below), ite(a, a, below), ite(below, below, below)} {
		checkEx(t, "MaxDepth deep at one of its Kids", e, true)
	}
	for _, e := range []impl.Ex{and(a, most), and(most, a), ite(a, most, a), ite(a, a, most), xor(not(below), a)} {
		checkEx(t, "one deeper at one of its Kids", e, false)
	}
}

// TestWithoutEnd: what no run could go through is told to be wrong at once.
func TestWithoutEnd(t *testing.T) {
	a := variable(0)
	wide := make([]impl.Ex, 1000000)
	for i := range wide {
		wide[i] = a
	}
	inTime(t, "expressions that are deep or broad", func() {
		checkEx(t, "one among its own Kids", rounds(impl.ExNot, 1), false)
		checkEx(t, "one twice among its own Kids", rounds(impl.ExAnd, 2), false)
		checkEx(t, "one three times among its own Kids", rounds(impl.ExIte, 3), false)
		checkEx(t, "one among its own Kids, of no kind", rounds(0, 2), false)
		checkEx(t, "very many nodes, MaxDepth deep", doubled(impl.MaxDepth), false)
		checkEx(t, "very many nodes, far deeper", doubled(1000), false)
		checkEx(t, "a million deep", deep(1000000, a), false)
		checkEx(t, "a million deep behind a wrong one", and(node(0), deep(1000000, a)), false)
		for kind := range 9 {
			checkEx(t, "a million Kids", impl.Ex{Kind: kind, Kids: wide}, false)
		}
	})
	checkEx(t, "8 times doubled", doubled(8), true)
	checkEx(t, "9 times doubled", doubled(9), false)
}

func checkValue(t *testing.T, e impl.Ex, values []bool, want bool) {
	t.Helper()
	if got, code := impl.EvalEx(e, values); code != 0 || got != want {
		t.Fatalf("EvalEx(%s, %v) = %v, %d", brief(e), values, got, code)
	}
}

func TestEvalEx(t *testing.T) {
	a, b, c := variable(0), variable(1), variable(2)
	for number := range 8 {
		v := valuesOf(number, 3)
		p, q, r := v[0], v[1], v[2]
		checkValue(t, a, v, p)
		checkValue(t, c, v, r)
		checkValue(t, constant(0), v, false)
		checkValue(t, constant(1), v, true)
		checkValue(t, not(b), v, !q)
		checkValue(t, and(a, b), v, p && q)
		checkValue(t, or(a, b), v, p || q)
		checkValue(t, xor(a, b), v, p != q)
		chosen := r
		if p {
			chosen = q
		}
		checkValue(t, ite(a, b, c), v, chosen)
		checkValue(t, not(or(and(a, not(b)), xor(c, constant(1)))), v, !(p && !q || !r))
	}
	checkValue(t, constant(1), nil, true)
	checkValue(t, deep(impl.MaxDepth, constant(0)), nil, true)
	checkValue(t, variable(11), append(make([]bool, 11), true), true)
	checkValue(t, variable(11), append(make([]bool, 11), true, false, false), true)
	checkValue(t, a, append([]bool{true}, make([]bool, impl.MaxList-1)...), true)
}

func TestEvalExFaults(t *testing.T) {
	a, b := variable(0), variable(1)
	for _, c := range []struct {
		e      impl.Ex
		values int
		code   int
	}{
		{a, 0, impl.ErrRange}, {a, 1, 0}, {b, 1, impl.ErrRange}, {b, 2, 0}, {variable(11), 11, impl.ErrRange}, {variable(11), 12, 0},
		{constant(0), 0, 0}, {not(b), 1, impl.ErrRange}, {and(a, b), 1, impl.ErrRange}, {and(b, a), 1, impl.ErrRange},
		// It has the variable, though its value does not hang on it.
		{and(constant(0), a), 0, impl.ErrRange}, {or(constant(1), a), 0, impl.ErrRange}, {xor(a, a), 0, impl.ErrRange},
		{ite(constant(0), a, constant(1)), 0, impl.ErrRange}, {ite(constant(1), constant(0), a), 0, impl.ErrRange}, {ite(b, a, a), 1, impl.ErrRange},
		// ErrBad is told ahead of ErrRange, wherever it stands.
		{variable(12), 0, impl.ErrBad}, {variable(12), 13, impl.ErrBad}, {variable(-1), 1, impl.ErrBad}, {and(a, node(0)), 0, impl.ErrBad},
		{and(node(0), a), 0, impl.ErrBad}, {deep(impl.MaxDepth+1, a), 0, impl.ErrBad}, {sized(impl.MaxEx + 1), 0, impl.ErrBad},
		{deep(impl.MaxDepth, b), 1, impl.ErrRange}, {sized(impl.MaxEx), 1, impl.ErrRange}, {sized(impl.MaxEx), 2, 0},
		// ErrLong is told ahead of all.
		{a, impl.MaxList, 0}, {a, impl.MaxList + 1, impl.ErrLong}, {node(0), impl.MaxList, impl.ErrBad}, {node(0), impl.MaxList + 1, impl.ErrLong},
	} {
		values := make([]bool, c.values)
		for i := range values {
			values[i] = true
		}
		if got, code := impl.EvalEx(c.e, values); code != c.code || code != 0 && got {
			t.Errorf("EvalEx of %d values: %v, code %d, not %d", c.values, got, code, c.code)
		}
	}
}

// slowValue reckons with 0 and 1, as nothing in the program does.
func slowValue(e impl.Ex, values []bool) int {
	var kids []int
	for _, kid := range e.Kids {
		kids = append(kids, slowValue(kid, values))
	}
	switch e.Kind {
	case impl.ExVar:
		if values[e.N] {
			return 1
		}
		return 0
	case impl.ExConst:
		return e.N
	case impl.ExNot:
		return 1 - kids[0]
	case impl.ExAnd:
		return kids[0] * kids[1]
	case impl.ExOr:
		return kids[0] + kids[1] - kids[0]*kids[1]
	case impl.ExXor:
		return (kids[0] + kids[1]) % 2
	}
	return kids[0]*kids[1] + (1-kids[0])*kids[2]
}

// someEx is right, of variables below inputs, with at most so many nodes.
func someEx(r *rand.Rand, inputs, nodes, depth int) impl.Ex {
	if nodes < 4 || depth == 1 || r.Intn(12) == 0 {
		if inputs == 0 || r.Intn(12) == 0 {
			return constant(r.Intn(2))
		}
		return variable(r.Intn(inputs))
	}
	kids := map[int]int{impl.ExNot: 1, impl.ExAnd: 2, impl.ExOr: 2, impl.ExXor: 2, impl.ExIte: 3}
	e := node(impl.ExNot + r.Intn(5))
	for range kids[e.Kind] {
		// Kids that are alike, or each other's opposites, are where gates are spared.
		if len(e.Kids) > 0 && r.Intn(8) == 0 {
			e.Kids = append(e.Kids, e.Kids[0])
			continue
		}
		e.Kids = append(e.Kids, someEx(r, inputs, (nodes-1)/kids[e.Kind], depth-1))
	}
	return e
}

func TestEvalExOnAllValues(t *testing.T) {
	r := chance()
	count := map[bool]int{}
	for range 1500 {
		inputs := r.Intn(7)
		e := someEx(r, inputs, 1+r.Intn(impl.MaxEx), 1+r.Intn(impl.MaxDepth))
		for number := range 1 << inputs {
			values := valuesOf(number, inputs)
			want := slowValue(e, values) == 1
			checkValue(t, e, values, want)
			count[want]++
		}
	}
	if count[false] < 5000 || count[true] < 5000 {
		t.Errorf("%v values: the test tells nothing", count)
	}
}
