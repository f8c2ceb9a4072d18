package tests

import (
	"math/rand"
	"strings"
	"testing"

	"loop.example/g00159/impl"
)

// Tests of promise 10: an expression is proved just when it is true of all values, with steps that check; else the first values are told of which it is not.

func sameAnswer(a, b impl.Answer) bool {
	return a.Valid == b.Valid && sameValues(a.Values, b.Values) && sameSteps(a.Steps, b.Steps)
}

// proved is a Valid answer.
func proved(steps ...impl.Step) impl.Answer {
	return impl.Answer{Valid: true, Steps: steps}
}

// falseOf is an answer of values, each a byte 0 or 1.
func falseOf(values string) impl.Answer {
	var a impl.Answer
	for _, value := range values {
		a.Values = append(a.Values, value == '1')
	}
	return a
}

// counting goes through values in the order of the least model: the first one counts most.
func counting(number, inputs int) []bool {
	values := make([]bool, inputs)
	for i := range values {
		values[i] = number>>(inputs-1-i)&1 == 1
	}
	return values
}

func hasVariable(e impl.Ex, from int) bool {
	for _, kid := range e.Kids {
		if hasVariable(kid, from) {
			return true
		}
	}
	return e.Kind == impl.ExVar && e.N >= from
}

// slowClaim is the formula of the opposite of an expression, or the code that is told first, one sentence behind the other.
func slowClaim(inputs int, e impl.Ex) (impl.Cnf, int) {
	if inputs < 0 || inputs > 12 {
		return impl.Cnf{}, impl.ErrRange
	}
	if !impl.ExOK(e) {
		return impl.Cnf{}, impl.ErrBad
	}
	if hasVariable(e, inputs) {
		return impl.Cnf{}, impl.ErrRange
	}
	c := &slowCircuit{inputs: inputs}
	literal := turned(c.build(e))
	if len(c.gates) > 400 || inputs+len(c.gates) > 40 {
		return impl.Cnf{}, impl.ErrSize
	}
	f := impl.Cnf{Vars: inputs + len(c.gates)}
	of := func(literal int) int { return []int{literal / 2, -(literal / 2)}[literal%2] }
	for i, g := range c.gates {
		x := inputs + 1 + i
		f.Clauses = append(f.Clauses, []int{-x, of(g.A)}, []int{-x, of(g.B)}, []int{x, -of(g.A), -of(g.B)})
	}
	if literal == 0 {
		f.Clauses = append(f.Clauses, nil)
	} else if literal > 1 {
		f.Clauses = append(f.Clauses, []int{of(literal)})
	}
	return f, 0
}

// firstFalse goes through all values; nil is none, where there are inputs.
func firstFalse(inputs int, e impl.Ex) ([]bool, bool) {
	for number := range 1 << inputs {
		if values := counting(number, inputs); slowValue(e, values) == 0 {
			return values, true
		}
	}
	return nil, false
}

// slowProve does not look for a model: it goes through all values.
func slowProve(inputs int, e impl.Ex) (impl.Answer, int) {
	f, code := slowClaim(inputs, e)
	if code != 0 {
		return impl.Answer{}, code
	}
	if values, isFalse := firstFalse(inputs, e); isFalse {
		return impl.Answer{Values: values}, 0
	}
	steps, code := slowRefutation(f, nil, nil)
	if code != 0 {
		return impl.Answer{}, code
	}
	return proved(steps...), 0
}

// checkProved looks at an answer by itself: its steps check for the formula, or the expression is false of its values.
func checkProved(t *testing.T, inputs int, e impl.Ex, a impl.Answer) {
	t.Helper()
	if yes, code := impl.CheckAnswer(inputs, e, a); !yes || code != 0 {
		t.Fatalf("CheckAnswer(%d, %s, %s) = %v, %d", inputs, brief(e), brief(a), yes, code)
	}
	if !a.Valid {
		checkValue(t, e, a.Values, false)
		return
	}
	f, _ := slowClaim(inputs, e)
	checkProof(t, f, a.Steps, len(a.Steps)-1, 0)
}

func checkProve(t *testing.T, inputs int, e impl.Ex, want impl.Answer) {
	t.Helper()
	got, code := impl.Prove(inputs, e)
	if code != 0 || !sameAnswer(got, want) {
		t.Fatalf("Prove(%d, %s) = %s, %d, not %s", inputs, brief(e), brief(got), code, brief(want))
	}
	checkProved(t, inputs, e, got)
}

func checkProveFault(t *testing.T, inputs int, e impl.Ex, want int) {
	t.Helper()
	if got, code := impl.Prove(inputs, e); code != want || !sameAnswer(got, impl.Answer{}) {
		t.Fatalf("Prove(%d, %s) = %s, %d, not code %d", inputs, brief(e), brief(got), code, want)
	}
}

// TestProveConstantsAndInputs: literals that are no gates, with and without an ExNot.
func TestProveConstantsAndInputs(t *testing.T) {
	no, yes := constant(0), constant(1)
	for inputs := range impl.MaxInputs + 1 {
		zeros := strings.Repeat("0", inputs)
		for _, e := range []impl.Ex{yes, not(no), not(not(yes)), or(yes, no), xor(no, yes), ite(no, no, yes), deep(impl.MaxDepth, no)} {
			checkProve(t, inputs, e, proved(step()))
		}
		for _, e := range []impl.Ex{no, not(yes), not(not(no)), and(yes, no), xor(yes, yes), ite(yes, no, yes), deep(impl.MaxDepth, yes)} {
			checkProve(t, inputs, e, falseOf(zeros))
		}
		for n := range inputs {
			x := variable(n)
			checkProve(t, inputs, x, falseOf(zeros))
			checkProve(t, inputs, not(not(x)), falseOf(zeros))
			checkProve(t, inputs, not(x), falseOf(zeros[:n]+"1"+zeros[n+1:]))
			checkProve(t, inputs, deep(impl.MaxDepth, x), falseOf(zeros[:n]+"1"+zeros[n+1:]))
			// Opposites are told apart by the circuit already.
			checkProve(t, inputs, or(x, not(x)), proved(step()))
			checkProve(t, inputs, not(xor(x, x)), proved(step()))
			checkProve(t, inputs, and(x, not(x)), falseOf(zeros))
		}
	}
}

// TestWhichValuesAreTold: a value for each input, be it in the expression or not; the first input counts most, and no gate's value is told.
func TestWhichValuesAreTold(t *testing.T) {
	a, b, c := variable(0), variable(1), variable(2)
	for _, row := range []struct {
		e      impl.Ex
		values string
	}{
		{or(a, b), "00"}, {and(a, b), "00"}, {xor(a, b), "00"}, {not(xor(a, b)), "01"}, {not(and(a, b)), "11"}, {not(or(a, b)), "01"},
		{or(a, not(b)), "01"}, {or(not(a), b), "10"}, {or(not(a), not(b)), "11"},
		{ite(a, b, c), "000"}, {not(ite(a, b, c)), "001"}, {not(and(and(a, b), c)), "111"}, {not(and(a, and(b, not(c)))), "110"},
		// What it does not hang on is false.
		{or(a, b), "000"}, {not(b), "010"}, {or(not(b), not(c)), "011"}, {or(not(a), not(c)), "101"}, {or(not(a), not(b)), "110"}, {not(b), "01000"},
		// Variables that it has, and does not hang on.
		{or(not(b), and(a, not(a))), "010"}, {xor(xor(a, not(b)), a), "01"}, {and(not(c), or(xor(a, b), not(xor(a, b)))), "001"},
		// The first of several.
		{or(a, not(xor(b, c))), "001"}, {ite(a, not(b), or(b, c)), "000"}, {ite(a, not(b), or(b, or(c, not(c)))), "110"}, {or(xor(a, b), not(c)), "001"},
		{or(not(a), or(b, c)), "100"}, {not(xor(xor(a, b), c)), "001"}, {xor(xor(a, b), not(c)), "001"}, {and(or(not(a), b), or(not(b), c)), "010"},
	} {
		checkProve(t, len(row.values), row.e, falseOf(row.values))
	}
	// One alone of all values, each in its turn.
	for number := range 1 << 6 {
		e, values := constant(0), ""
		for n, value := range counting(number, 6) {
			if value {
				e, values = or(not(variable(n)), e), values+"1"
			} else {
				e, values = or(variable(n), e), values+"0"
			}
		}
		checkProve(t, 6, e, falseOf(values))
		checkProve(t, 12, e, falseOf(values+"000000"))
		checkProve(t, 6, ite(e, constant(1), e), falseOf(values))
	}
}

// TestSteps has steps told by hand.
func TestSteps(t *testing.T) {
	a, b, c := variable(0), variable(1), variable(2)
	all := []impl.Step{step(1, 2), step(1, -2), step(1), step(-1, 2), step(-1, -2), step(-1), step()}
	for _, row := range []struct {
		inputs int
		e      impl.Ex
		steps  []impl.Step
	}{
		// Propagation alone.
		{2, or(not(and(a, b)), a), []impl.Step{step()}},
		{2, or(not(and(a, b)), or(a, b)), []impl.Step{step()}},
		{3, or(not(and(and(a, b), c)), and(b, and(a, c))), []impl.Step{step()}},
		// By choices: false first, then true, then what is ahead of both.
		{2, not(xor(ite(a, b, b), b)), all},
		{1, not(xor(ite(constant(1), a, a), a)), []impl.Step{step()}},
		// Inputs that it does not hang on, ahead of the others, are chosen too; those behind are not.
		{3, not(xor(ite(b, c, c), c)), []impl.Step{
			step(1, 2, 3), step(1, 2, -3), step(1, 2), step(1, -2, 3), step(1, -2, -3), step(1, -2), step(1),
			step(-1, 2, 3), step(-1, 2, -3), step(-1, 2), step(-1, -2, 3), step(-1, -2, -3), step(-1, -2), step(-1), step(),
		}},
		{12, not(xor(ite(a, b, b), b)), all},
	} {
		checkProve(t, row.inputs, row.e, proved(row.steps...))
	}
}

// allSmall are expressions of two variables and constants: all of at most two levels, and of these all with one operator of at most two Kids above.
func allSmall() []impl.Ex {
	operators := []func(a, b impl.Ex) impl.Ex{and, or, xor}
	leaves := []impl.Ex{variable(0), variable(1), constant(0), constant(1)}
	small := append([]impl.Ex(nil), leaves...)
	for _, p := range leaves {
		small = append(small, not(p))
		for _, q := range leaves {
			for _, of := range operators {
				small = append(small, of(p, q))
			}
			for _, s := range leaves {
				small = append(small, ite(p, q, s))
			}
		}
	}
	list := append([]impl.Ex(nil), small...)
	for _, p := range small {
		list = append(list, not(p))
		for _, q := range small {
			for _, of := range operators {
				list = append(list, of(p, q))
			}
		}
	}
	return list
}

func TestProveAllSmall(t *testing.T) {
	count := map[string]int{}
	for _, e := range allSmall() {
		want, code := slowProve(2, e)
		if code != 0 {
			t.Fatalf("%s: code %d", brief(e), code)
		}
		checkProve(t, 2, e, want)
		kind := "some"
		if want.Valid {
			kind = "all"
		} else if _, isTrue := firstFalse(2, not(e)); !isTrue {
			kind = "none"
		}
		count[kind]++
	}
	if count["all"] < 5000 || count["some"] < 10000 || count["none"] < 5000 {
		t.Errorf("true of %v: the test tells little", count)
	}
}

// rewritten tells the same as an expression, mostly by other gates.
func rewritten(r *rand.Rand, e impl.Ex) impl.Ex {
	var k []impl.Ex
	for _, kid := range e.Kids {
		k = append(k, rewritten(r, kid))
	}
	e.Kids = k
	if r.Intn(3) == 0 {
		return e
	}
	switch e.Kind {
	case impl.ExNot:
		return xor(k[0], constant(1))
	case impl.ExAnd:
		return []impl.Ex{ite(k[0], k[1], k[0]), not(or(not(k[0]), not(k[1]))), xor(k[1], and(not(k[0]), k[1]))}[r.Intn(3)]
	case impl.ExOr:
		return []impl.Ex{ite(k[0], k[0], k[1]), xor(xor(k[0], k[1]), and(k[0], k[1])), or(k[1], and(k[0], not(k[1])))}[r.Intn(3)]
	case impl.ExXor:
		return []impl.Ex{and(or(k[0], k[1]), not(and(k[0], k[1]))), ite(k[0], not(k[1]), k[1]), xor(not(k[0]), not(k[1]))}[r.Intn(3)]
	case impl.ExIte:
		return []impl.Ex{and(or(not(k[0]), k[1]), or(k[0], k[2])), xor(k[2], and(k[0], xor(k[1], k[2])))}[r.Intn(2)]
	}
	return e
}

// someClaim is an expression that is true of all values, made of two of which one has at most so many nodes.
func someClaim(r *rand.Rand, inputs, nodes int) impl.Ex {
	e := someEx(r, inputs, 4+r.Intn(nodes), 2+r.Intn(5))
	other := someEx(r, inputs, 4+r.Intn(6), 3)
	switch r.Intn(6) {
	case 0:
		return or(e, rewritten(r, not(e)))
	case 1:
		return or(not(and(e, other)), rewritten(r, e))
	case 2:
		return or(not(xor(e, rewritten(r, e))), other)
	case 3:
		return xor(not(rewritten(r, e)), rewritten(r, e))
	case 4:
		return or(not(e), rewritten(r, or(other, e)))
	}
	return not(xor(e, rewritten(r, e)))
}

func TestProveOnAllValues(t *testing.T) {
	r := chance()
	codes, valid, chosen := map[int]int{}, 0, 0
	for i := range 8000 {
		inputs := r.Intn(8)
		e := someClaim(r, inputs, 60)
		if i%4 == 0 {
			e = someEx(r, inputs, 1+r.Intn(200), 1+r.Intn(8))
		}
		if i%4 == 1 {
			e = or(not(and(e, someEx(r, inputs, 10, 4))), someEx(r, inputs, 10, 4))
		}
		want, code := slowProve(inputs, e)
		codes[code]++
		if code != 0 {
			checkProveFault(t, inputs, e, code)
			continue
		}
		checkProve(t, inputs, e, want)
		if want.Valid {
			valid++
		}
		if len(want.Steps) > 1 {
			chosen++
		}
	}
	if codes[0]-valid < 1500 || valid < 2000 || chosen < 500 || codes[impl.ErrSize] < 100 || codes[impl.ErrMany] < 5 {
		t.Errorf("codes %v, %d valid, %d by choices: the test tells little", codes, valid, chosen)
	}
}

// TestProveManyInputs: as many inputs as there may be, of which the expression has some.
func TestProveManyInputs(t *testing.T) {
	r := chance()
	valid, last := 0, 0
	for i := range 400 {
		inputs := 8 + r.Intn(5)
		e := someClaim(r, inputs, 16)
		if i%2 == 0 {
			e = and(e, or(not(variable(inputs-1)), someEx(r, inputs, 10, 4)))
		}
		want, code := slowProve(inputs, e)
		if code != 0 {
			checkProveFault(t, inputs, e, code)
			continue
		}
		checkProve(t, inputs, e, want)
		if want.Valid {
			valid++
		} else if want.Values[inputs-1] || want.Values[inputs-2] {
			last++
		}
	}
	if valid < 100 || last < 50 {
		t.Errorf("%d valid, %d hang on a last input: the test tells little", valid, last)
	}
}

// TestSixInputsHaveRoomForSteps: all gates follow from the inputs, so there are no more steps than 2 to the 7 less 1.
func TestSixInputsHaveRoomForSteps(t *testing.T) {
	r := chance()
	valid, most := 0, 0
	for range 1500 {
		e := not(xor(someEx(r, 6, 16, 5), constant(0)))
		e = not(xor(e, rewritten(r, e)))
		a, code := impl.Prove(6, e)
		if code == impl.ErrSize {
			continue
		}
		if code != 0 || !a.Valid {
			t.Fatalf("Prove(6, %s) = %s, %d", brief(e), brief(a), code)
		}
		checkProved(t, 6, e, a)
		valid, most = valid+1, max(most, len(a.Steps))
	}
	if valid < 500 || most < 60 || most > 127 {
		t.Errorf("%d valid, at most %d steps: the test tells little", valid, most)
	}
}

// fromLeft and fromRight put a list together by one operator.
func fromLeft(of func(a, b impl.Ex) impl.Ex, list ...impl.Ex) impl.Ex {
	e := list[0]
	for _, next := range list[1:] {
		e = of(e, next)
	}
	return e
}

func fromRight(of func(a, b impl.Ex) impl.Ex, list ...impl.Ex) impl.Ex {
	e := list[len(list)-1]
	for i := len(list) - 2; i >= 0; i-- {
		e = of(list[i], e)
	}
	return e
}

// bothWays is true of all values: it says that a list is the same from the left and from the right.
func bothWays(of func(a, b impl.Ex) impl.Ex, list ...impl.Ex) impl.Ex {
	return not(xor(fromLeft(of, list...), fromRight(of, list...)))
}

func variables(numbers ...int) []impl.Ex {
	var list []impl.Ex
	for _, n := range numbers {
		list = append(list, variable(n))
	}
	return list
}

// mostSteps is proved by 199 steps; there is always an odd number of them.
func mostSteps() impl.Ex {
	return bothWays(or, fromLeft(and, variables(2, 3, 0)...), and(variable(5), variable(4)), xor(variable(1), variable(6)))
}

// tooManySteps would be proved by 201 steps.
func tooManySteps() impl.Ex {
	return bothWays(and, fromLeft(or, variables(7, 3, 0)...), or(variable(2), variable(4)), variable(6), or(variable(5), variable(1)))
}

func TestStepsHaveRoom(t *testing.T) {
	a, code := impl.Prove(7, mostSteps())
	if code != 0 || !a.Valid || len(a.Steps) != 199 {
		t.Fatalf("%v, %d steps, code %d", a.Valid, len(a.Steps), code)
	}
	want, _ := slowProve(7, mostSteps())
	checkProve(t, 7, mostSteps(), want)
	// Inputs behind those that it has are never chosen.
	checkProve(t, 12, mostSteps(), want)
	if _, isFalse := firstFalse(8, tooManySteps()); isFalse {
		t.Error("the expression with too many steps is not true of all values")
	}
	for inputs := 8; inputs <= impl.MaxInputs; inputs++ {
		checkProveFault(t, inputs, tooManySteps(), impl.ErrMany)
	}
	// Values are told however many steps would lead to them.
	checkProve(t, 8, and(tooManySteps(), not(fromLeft(and, variables(0, 1, 2, 3, 4, 5, 6, 7)...))), falseOf("11111111"))
	checkProve(t, 8, and(tooManySteps(), or(not(and(variable(0), variable(1))), variable(7))), falseOf("11000000"))
	checkProve(t, 8, and(tooManySteps(), not(variable(7))), falseOf("00000001"))
	checkProve(t, 8, not(tooManySteps()), falseOf("00000000"))
}

// beside has gates of a list too, though it does not hang on them.
func beside(e impl.Ex, list []impl.Ex) impl.Ex {
	for _, other := range list {
		e = or(and(constant(0), other), e)
	}
	return e
}

// TestFormulasHaveRoom: a formula has a variable for each input and each gate.
func TestFormulasHaveRoom(t *testing.T) {
	for inputs := 5; inputs <= impl.MaxInputs; inputs++ {
		gates := oneGateEach(inputs, impl.MaxVars-inputs+1)
		most := gates[:len(gates)-1]
		x, zeros := variable(inputs-1), strings.Repeat("0", inputs)
		checkProve(t, inputs, beside(or(x, not(x)), most), proved(step()))
		checkProve(t, inputs, beside(constant(0), most), falseOf(zeros))
		checkProve(t, inputs, beside(not(x), most), falseOf(zeros[1:]+"1"))
		checkProve(t, inputs, beside(not(most[0]), most), falseOf("11"+zeros[2:]))
		checkProve(t, inputs, beside(or(not(most[0]), variable(0)), most[:len(most)-1]), proved(step()))
		for _, e := range []impl.Ex{or(x, not(x)), constant(0), constant(1), not(x), not(most[0])} {
			checkProveFault(t, inputs, beside(e, gates), impl.ErrSize)
		}
	}
	// More than MaxEx gates.
	checkProveFault(t, 12, manyXors(chance(), 12, (impl.MaxEx-1)/2), impl.ErrSize)
}

// TestProveHasRoomForNodes: as many nodes and as deep as there may be, and one beyond.
func TestProveHasRoomForNodes(t *testing.T) {
	a := variable(0)
	for _, e := range []impl.Ex{sized(impl.MaxEx), or(sized(impl.MaxEx/2-1), sized(impl.MaxEx/2)), and(a, deep(impl.MaxDepth-1, a)), ite(sized(133), sized(133), sized(133))} {
		want, code := slowProve(2, e)
		if code != 0 {
			t.Fatalf("%s: code %d", brief(e), code)
		}
		checkProve(t, 2, e, want)
	}
	half := sized(impl.MaxEx/2 - 2)
	checkProve(t, 2, not(xor(half, half)), proved(step()))
	for _, e := range []impl.Ex{sized(impl.MaxEx + 1), not(sized(impl.MaxEx)), deep(impl.MaxDepth+1, a), deep(impl.MaxDepth+1, constant(1)), and(a, deep(impl.MaxDepth, a))} {
		checkProveFault(t, 2, e, impl.ErrBad)
	}
}

// TestClaimsOfManyInputsEnd: the answer comes in good time, whether steps have room or not.
func TestClaimsOfManyInputsEnd(t *testing.T) {
	r := chance()
	codes := map[int]int{}
	inTime(t, "claims of twelve inputs", func() {
		for range 300 {
			list := variables(r.Perm(12)...)
			for _, of := range []func(a, b impl.Ex) impl.Ex{and, or} {
				e := bothWays(of, list[0], and(list[1], list[2]), or(list[3], list[4]), and(list[5], list[6]), or(list[7], and(list[8], list[9])), or(list[10], list[11]))
				a, code := impl.Prove(12, e)
				if code == 0 && !a.Valid || code != 0 && code != impl.ErrMany {
					t.Errorf("Prove(%s) = %s, %d", brief(e), brief(a), code)
				}
				codes[code]++
			}
			e := or(not(fromLeft(xor, list[:8]...)), list[11])
			if a, code := impl.Prove(12, e); code != 0 || a.Valid {
				t.Errorf("Prove(%s) = %s, %d", brief(e), brief(a), code)
			}
		}
	})
	if codes[0] == 0 || codes[impl.ErrMany] < 100 {
		t.Errorf("codes %v: the test tells little", codes)
	}
}
