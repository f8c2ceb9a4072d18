package tests

import (
	"math"
	"strings"
	"testing"

	"loop.example/g00159/impl"
)

// Tests of promise 10: what the calls of chapter 10 tell of wrong arguments, and of two faults the first.

// wrongClaim is an expression of which Prove and CheckAnswer tell a code.
type wrongClaim struct {
	inputs int
	e      impl.Ex
	code   int
}

func wrongClaims() []wrongClaim {
	a, b, wrong := variable(0), variable(1), node(0)
	large := manyXors(chance(), 12, 20)
	huge := manyXors(chance(), 12, (impl.MaxEx-1)/2)
	list := []wrongClaim{
		// A variable from inputs on, though the value does not hang on it.
		{0, a, impl.ErrRange}, {1, b, impl.ErrRange}, {11, variable(11), impl.ErrRange}, {0, or(a, not(a)), impl.ErrRange}, {1, and(constant(0), b), impl.ErrRange}, {1, ite(constant(1), a, b), impl.ErrRange}, {1, xor(b, b), impl.ErrRange},
		{0, deep(impl.MaxDepth, a), impl.ErrRange}, {1, sized(impl.MaxEx), impl.ErrRange},
		// ErrBad is told ahead of it.
		{12, variable(12), impl.ErrBad}, {0, variable(12), impl.ErrBad}, {1, and(b, wrong), impl.ErrBad}, {1, and(wrong, b), impl.ErrBad}, {0, deep(impl.MaxDepth+1, a), impl.ErrBad}, {0, sized(impl.MaxEx + 1), impl.ErrBad},
		{12, rounds(impl.ExAnd, 2), impl.ErrBad}, {12, rounds(impl.ExIte, 3), impl.ErrBad}, {12, doubled(1000), impl.ErrBad}, {12, deep(1000000, a), impl.ErrBad},
		// Neither the circuit nor the formula has room: told behind both.
		{12, large, impl.ErrSize}, {12, huge, impl.ErrSize}, {12, or(large, not(large)), impl.ErrSize}, {11, huge, impl.ErrRange}, {11, and(large, variable(11)), impl.ErrRange}, {12, and(large, wrong), impl.ErrBad},
	}
	for _, inputs := range []int{-1, -2, 13, 14, 1 << 32, 1<<32 + 2, -1 << 32, math.MinInt, math.MinInt + 1, math.MaxInt} {
		// The number of inputs is told ahead of all else.
		for _, e := range []impl.Ex{a, constant(0), constant(1), wrong, variable(11), variable(12), large, huge, rounds(impl.ExNot, 1), sized(impl.MaxEx + 1)} {
			list = append(list, wrongClaim{inputs, e, impl.ErrRange})
		}
	}
	for _, e := range wrongExpressions() {
		list = append(list, wrongClaim{2, e, impl.ErrBad}, wrongClaim{0, e, impl.ErrBad}, wrongClaim{2, not(e), impl.ErrBad})
	}
	return list
}

func TestProveFaults(t *testing.T) {
	for _, c := range wrongClaims() {
		checkProveFault(t, c.inputs, c.e, c.code)
	}
	// ErrMany is told behind all else, and only of what is true of all values.
	checkProveFault(t, 8, tooManySteps(), impl.ErrMany)
	checkProveFault(t, 7, tooManySteps(), impl.ErrRange)
	checkProveFault(t, 13, tooManySteps(), impl.ErrRange)
	checkProveFault(t, 8, and(tooManySteps(), node(0)), impl.ErrBad)
	checkProveFault(t, 8, beside(tooManySteps(), oneGateEach(8, 28)), impl.ErrSize)
	checkProve(t, 8, not(tooManySteps()), falseOf("00000000"))
}

// wrongAnswers are those whose form is not due for an expression of so many inputs, at least one, whose formula has so many variables.
func wrongAnswers(inputs, vars int) []impl.Answer {
	end := []impl.Step{step()}
	list := []impl.Answer{
		// Values and steps both.
		{Values: make([]bool, inputs), Steps: end}, {Valid: true, Values: make([]bool, inputs), Steps: end}, {Values: make([]bool, inputs), Steps: []impl.Step{removal(1)}},
		{Valid: true, Values: []bool{false}, Steps: end}, {Values: make([]bool, inputs), Steps: repeatedStep(step(), impl.MaxList+1)},
		// Values in a Valid one, steps in one that is not.
		{Valid: true, Values: make([]bool, inputs)}, {Steps: end}, {Steps: repeatedStep(step(), impl.MaxSteps)}, {Steps: []impl.Step{step(0)}},
		// Neither, where values are due.
		{},
		// Clauses that are none of the formula's variables, wherever they stand.
		proved(step(vars+1), step()), proved(step(-vars-1), step()), proved(step(), step(vars+1)), proved(step(0), step()), proved(step(1, 0), step()), proved(removal(vars+1), step()), proved(step(), removal(0)),
		proved(step(math.MaxInt), step()), proved(step(math.MinInt), step()), proved(step(math.MinInt+1), step()), proved(step(repeated(1, impl.MaxWidth+1)...), step()), proved(step(repeated(1, impl.MaxList)...), step()), proved(step(repeated(1, impl.MaxList+1)...), step()),
		// Too many.
		proved(repeatedStep(step(), impl.MaxSteps+1)...), proved(repeatedStep(step(1), impl.MaxList)...), proved(repeatedStep(step(), impl.MaxList+1)...), proved(repeatedStep(step(0), 100000)...),
	}
	for _, count := range []int{inputs - 1, inputs + 1, inputs + 2, vars + 1, impl.MaxList, impl.MaxList + 1, 100000} {
		if count != 0 {
			list = append(list, impl.Answer{Values: make([]bool, count)}, impl.Answer{Valid: true, Values: make([]bool, count)}, impl.Answer{Values: make([]bool, count), Steps: end}, impl.Answer{Valid: true, Values: make([]bool, count), Steps: end})
		}
	}
	return list
}

func TestCheckAnswerFaults(t *testing.T) {
	a, b := variable(0), variable(1)
	for _, e := range []impl.Ex{a, not(a), constant(0), constant(1), and(a, not(a)), or(a, not(a))} {
		for _, answer := range wrongAnswers(1, 1) {
			checkAnswer(t, 1, e, answer, false, impl.ErrRange)
		}
	}
	for _, e := range []impl.Ex{not(xor(ite(a, b, b), b)), xor(ite(a, b, b), b)} {
		for _, answer := range wrongAnswers(2, 8) {
			checkAnswer(t, 2, e, answer, false, impl.ErrRange)
		}
	}
	for _, answer := range wrongAnswers(12, 12) {
		checkAnswer(t, 12, variable(11), answer, false, impl.ErrRange)
	}
	// The codes of the circuit and of the formula are told ahead, whatever the answer is.
	answers := append(wrongAnswers(1, 1), falseOf("0"), falseOf("00"), falseOf(strings.Repeat("0", 12)), proved(step()), proved(step(1), step(-1), step()))
	for _, c := range wrongClaims() {
		for _, answer := range answers {
			checkAnswer(t, c.inputs, c.e, answer, false, c.code)
		}
	}
}

// TestAnswersWithoutInputs: no values are just as many as are due, and no steps are steps that do not end.
func TestAnswersWithoutInputs(t *testing.T) {
	no, yes := constant(0), constant(1)
	checkAnswer(t, 0, no, impl.Answer{}, true, 0)
	checkAnswer(t, 0, yes, impl.Answer{}, false, 0)
	checkAnswer(t, 0, no, impl.Answer{Valid: true}, false, 0)
	checkAnswer(t, 0, yes, impl.Answer{Valid: true}, false, 0)
	checkAnswer(t, 0, yes, proved(step()), true, 0)
	checkAnswer(t, 0, no, proved(step()), false, 0)
	for _, e := range []impl.Ex{no, yes} {
		for _, a := range []impl.Answer{
			{Values: []bool{false}}, {Values: []bool{true}}, {Steps: []impl.Step{step()}}, {Steps: []impl.Step{step(1)}}, {Valid: true, Values: []bool{true}}, {Valid: true, Values: []bool{false}, Steps: []impl.Step{step()}},
			proved(step(1), step()), proved(step(-1), step()), proved(step(0), step()), proved(step(), step(1)), {Values: make([]bool, impl.MaxList+1)},
		} {
			checkAnswer(t, 0, e, a, false, impl.ErrRange)
		}
	}
}

// wrongNets are made of a right one of two routers.
func wrongNets(n impl.Net) []impl.Net {
	var list []impl.Net
	spoil := func(change func(n *impl.Net)) {
		m := copyOfNet(n)
		change(&m)
		list = append(list, m)
	}
	spoil(func(n *impl.Net) { *n = impl.Net{} })
	spoil(func(n *impl.Net) { n.Routers = append(n.Routers, n.Routers[0]) })
	spoil(func(n *impl.Net) { n.Routers = append(n.Routers, "c", "d", "e") })
	spoil(func(n *impl.Net) { n.Routers[0] = "9" })
	spoil(func(n *impl.Net) { n.Links = nil })
	spoil(func(n *impl.Net) { n.Links[0].Cost = 0 })
	spoil(func(n *impl.Net) { n.Links[0].B = 0 })
	spoil(func(n *impl.Net) { n.Origins = []int{2} })
	spoil(func(n *impl.Net) { n.Externals = []int{1, 0} })
	spoil(func(n *impl.Net) { n.Imports = []impl.Import{{At: 0, From: 1}} })
	spoil(func(n *impl.Net) { n.Filters[0].High = 16 })
	spoil(func(n *impl.Net) { n.Filters[0].Low = -1 })
	spoil(func(n *impl.Net) { n.Filters[1].Low, n.Filters[1].High = 5, 4 })
	spoil(func(n *impl.Net) { n.Filters[1].To = 0 })
	spoil(func(n *impl.Net) { n.Filters = make([]impl.Filter, impl.MaxList) })
	spoil(func(n *impl.Net) { n.Filters = make([]impl.Filter, impl.MaxList+1) })
	spoil(func(n *impl.Net) { n.Links = make([]impl.Link, impl.MaxList+1) })
	for len(n.Filters) <= impl.MaxFilters {
		n.Filters = append(n.Filters[:len(n.Filters):len(n.Filters)], n.Filters[0])
	}
	return append(list, n)
}

func noRouters() []int {
	return append([]int{2, 3, 4}, oddly...)
}

func TestFilterExFaults(t *testing.T) {
	n, full := pairNet(2, 5, 9, 9), pairNet(0, 0, 2, 2, 4, 4, 6, 6, 8, 8, 10, 10)
	check := func(n impl.Net, at, to, want int) {
		t.Helper()
		if e, code := impl.FilterEx(n, at, to); code != want || !sameEx(e, impl.Ex{}) {
			t.Errorf("FilterEx(%s, %d, %d) = %s, %d, not code %d", brief(n), at, to, brief(e), code, want)
		}
	}
	check(full, 0, 1, impl.ErrSize)
	for _, number := range noRouters() {
		for _, right := range []impl.Net{n, full} {
			check(right, number, 1, impl.ErrRange)
			check(right, 0, number, impl.ErrRange)
			check(right, number, number, impl.ErrRange)
		}
	}
	for _, wrong := range wrongNets(n) {
		check(wrong, 0, 1, impl.ErrBad)
		check(wrong, 1, 1, impl.ErrBad)
		for _, number := range noRouters() {
			check(wrong, number, 1, impl.ErrBad)
			check(wrong, 0, number, impl.ErrBad)
		}
	}
	for _, wrong := range wrongNets(full) {
		check(wrong, 0, 1, impl.ErrBad)
	}
	for _, wrong := range []impl.Net{{Routers: []string{"a"}}, {Routers: []string{"x"}, Origins: []int{0}}} {
		check(wrong, 0, 1, impl.ErrRange)
		check(wrong, 1, 0, impl.ErrRange)
	}
}

func TestFilterApartFaults(t *testing.T) {
	n, m := pairNet(2, 5, 9, 9), pairNet(2, 4, 8, 8)
	one := impl.Net{Routers: []string{"a"}}
	checkApartOf(t, n, 0, 1, m, 0, 1, 5, 0)
	for _, number := range noRouters() {
		for _, ends := range [][4]int{{number, 1, 0, 1}, {0, number, 0, 1}, {0, 1, number, 1}, {0, 1, 0, number}, {number, 0, 0, number}, {1, 1, number, number}, {number, number, number, number}} {
			checkApartOf(t, n, ends[0], ends[1], m, ends[2], ends[3], 0, impl.ErrRange)
			checkApartOf(t, n, ends[0], ends[1], n, ends[2], ends[3], 0, impl.ErrRange)
			// Of both networks the first fault is that one is not right.
			for _, wrong := range wrongNets(n) {
				checkApartOf(t, wrong, ends[0], ends[1], m, ends[2], ends[3], 0, impl.ErrBad)
				checkApartOf(t, m, ends[0], ends[1], wrong, ends[2], ends[3], 0, impl.ErrBad)
			}
		}
	}
	for _, wrong := range wrongNets(n) {
		checkApartOf(t, wrong, 0, 1, m, 0, 1, 0, impl.ErrBad)
		checkApartOf(t, m, 0, 1, wrong, 0, 1, 0, impl.ErrBad)
		checkApartOf(t, wrong, 0, 1, wrong, 0, 1, 0, impl.ErrBad)
		checkApartOf(t, wrong, 0, 0, wrong, 0, 0, 0, impl.ErrBad)
	}
	// Each pair is of its own network.
	checkApartOf(t, one, 0, 0, n, 0, 1, 2, 0)
	checkApartOf(t, n, 0, 1, one, 0, 0, 2, 0)
	checkApartOf(t, one, 0, 1, n, 0, 1, 0, impl.ErrRange)
	checkApartOf(t, one, 1, 0, n, 0, 0, 0, impl.ErrRange)
	checkApartOf(t, n, 0, 1, one, 0, 1, 0, impl.ErrRange)
	checkApartOf(t, n, 0, 1, one, 1, 0, 0, impl.ErrRange)
}
