package tests

import (
	"fmt"
	"math/rand"
	"strings"
	"testing"

	"loop.example/g00159/impl"
)

// Tests of promise 1, of expressions and circuits: arguments stay, nothing panics, nothing hangs on earlier calls.

// oddEx is mostly wrong, and may have Kids and an N of any kind.
func oddEx(r *rand.Rand, depth int) impl.Ex {
	e := impl.Ex{Kind: r.Intn(9)}
	if r.Intn(4) == 0 {
		e.N = oddNumbers[r.Intn(len(oddNumbers))]
	}
	if r.Intn(20) == 0 {
		e.Kind = oddNumbers[r.Intn(len(oddNumbers))]
	}
	if depth > 1 {
		for range r.Intn(4) {
			e.Kids = append(e.Kids, oddEx(r, depth-1))
		}
	}
	return e
}

func oddAig(r *rand.Rand) impl.Aig {
	a := impl.Aig{Inputs: r.Intn(4)}
	if r.Intn(4) == 0 {
		a.Inputs = oddNumbers[r.Intn(len(oddNumbers))]
	}
	for range r.Intn(3) {
		g := impl.Gate{A: 2 + r.Intn(4), B: 4 + r.Intn(4)}
		if r.Intn(4) == 0 {
			g.A = oddNumbers[r.Intn(len(oddNumbers))]
		}
		if r.Intn(4) == 0 {
			g.B = oddNumbers[r.Intn(len(oddNumbers))]
		}
		a.Gates = append(a.Gates, g)
	}
	return a
}

func TestExpressionsNeverPanic(t *testing.T) {
	r := chance()
	right := 0
	for range 60000 {
		list := []impl.Ex{oddEx(r, 1+r.Intn(5)), oddEx(r, 1+r.Intn(5))}
		if r.Intn(2) == 0 {
			list[1] = someEx(r, impl.MaxInputs, 40, 6)
		}
		inputs := oddNumbers[r.Intn(8)]
		ok := [2]bool{impl.ExOK(list[0]), impl.ExOK(list[1])}
		if ok[0] && ok[1] {
			right++
		}
		value, code := impl.EvalEx(list[0], make([]bool, r.Intn(14)))
		checkCode(t, "EvalEx", code)
		if (code == impl.ErrBad) == ok[0] || code != 0 && value {
			t.Fatalf("EvalEx(%s) = %v, %d", brief(list[0]), value, code)
		}
		a, literals, code := impl.BuildAig(inputs, list)
		checkCode(t, "BuildAig", code)
		if code == 0 && (!ok[0] || !ok[1] || len(literals) != 2 || !impl.AigOK(a)) || code != 0 && (!isZeroAig(a) || len(literals) != 0) {
			t.Fatalf("BuildAig(%d, %s) = %s, %v, %d", inputs, brief(list), brief(a), literals, code)
		}
	}
	if right < 500 {
		t.Errorf("only %d are right: the test tells nothing", right)
	}
}

func TestCircuitsNeverPanic(t *testing.T) {
	r := chance()
	right := 0
	for range 60000 {
		a, literals := oddAig(r), oddList(r)
		if r.Intn(2) == 0 {
			literals = nil
		}
		ok := impl.AigOK(a)
		if ok && len(a.Gates) > 0 {
			right++
		}
		values, code := impl.EvalAig(a, literals, make([]bool, r.Intn(4)))
		checkCode(t, "EvalAig", code)
		if (code == impl.ErrBad) == ok || code != 0 && len(values) != 0 || code == 0 && len(values) != len(literals) {
			t.Fatalf("EvalAig(%v, %v) = %v, %d", a, literals, values, code)
		}
		f, code := impl.Tseitin(a, oddNumbers[r.Intn(len(oddNumbers))])
		checkCode(t, "Tseitin", code)
		if (code == impl.ErrBad) == ok || code != 0 && !isZeroCnf(f) || !impl.CnfOK(f) {
			t.Fatalf("Tseitin(%v) = %v, %d", a, f, code)
		}
	}
	if right < 500 {
		t.Errorf("only %d are right: the test tells nothing", right)
	}
}

func sameEx(a, b impl.Ex) bool {
	if a.Kind != b.Kind || a.N != b.N || len(a.Kids) != len(b.Kids) {
		return false
	}
	for i := range a.Kids {
		if !sameEx(a.Kids[i], b.Kids[i]) {
			return false
		}
	}
	return true
}

// roomyEx is an expression with room behind the Kids of each node.
func roomyEx(e impl.Ex) impl.Ex {
	kids := make([]impl.Ex, 0, len(e.Kids)+2)
	for _, kid := range e.Kids {
		kids = append(kids, roomyEx(kid))
	}
	return impl.Ex{Kind: e.Kind, N: e.N, Kids: kids}
}

// isUntouched tells that nothing stands behind the Kids of an expression of roomyEx.
func isUntouched(e impl.Ex) bool {
	for _, behind := range e.Kids[:cap(e.Kids)][len(e.Kids):] {
		if !sameEx(behind, impl.Ex{}) {
			return false
		}
	}
	for _, kid := range e.Kids {
		if !isUntouched(kid) {
			return false
		}
	}
	return true
}

func TestCircuitsLeaveTheirArguments(t *testing.T) {
	r := chance()
	for range 1000 {
		e, values := someEx(r, 5, 40, 8), make([]bool, 5, 9)
		list := append(make([]impl.Ex, 0, 4), roomyEx(e), roomyEx(oddEx(r, 3)))
		kept := roomyEx(list[1])
		impl.ExOK(list[0])
		impl.EvalEx(list[0], values)
		impl.BuildAig(5, list)
		impl.BuildAig(5, list[:1])
		if !sameEx(list[0], e) || !sameEx(list[1], kept) || !isUntouched(list[0]) || !isUntouched(list[1]) || !sameEx(list[:3][2], impl.Ex{}) {
			t.Fatalf("a call of chapter 5 changes %s", brief(e))
		}
		if !sameValues(values[:9], make([]bool, 9)) {
			t.Fatal("EvalEx changes its values")
		}
		checkCircuitStays(t, r, list[:1])
	}
}

// checkCircuitStays looks behind the ends of what EvalAig and Tseitin are given.
func checkCircuitStays(t *testing.T, r *rand.Rand, list []impl.Ex) {
	t.Helper()
	built, literals, _ := impl.BuildAig(5, list)
	a := impl.Aig{Inputs: 5, Gates: append(make([]impl.Gate, 0, len(built.Gates)+2), built.Gates...)}
	given, values := roomy(append(literals, r.Intn(12))), append(make([]bool, 0, 9), true, false, true, true, false)
	keptList := append([]int(nil), given...)
	impl.AigOK(a)
	impl.EvalAig(a, given, values)
	impl.Tseitin(a, literals[0])
	if !sameAig(a, built) || a.Gates[:cap(a.Gates)][len(a.Gates)] != (impl.Gate{}) || !sameList(given, keptList) {
		t.Fatalf("a call of chapter 5 changes %s", brief(built))
	}
	checkRoom(t, "EvalAig", given)
	if !sameValues(values[:9], []bool{true, false, true, true, false, false, false, false, false}) {
		t.Fatal("EvalAig changes its values")
	}
}

func TestCircuitsAreNewMemory(t *testing.T) {
	r := chance()
	for range 500 {
		list := someList(r, 4, 4, 30)
		a, literals, code := impl.BuildAig(4, list)
		want := circuitCalls(4, list)
		if code != 0 || len(literals) == 0 {
			continue
		}
		f, _ := impl.Tseitin(a, literals[0])
		checkApart(t, "Tseitin", f)
		values, _ := impl.EvalAig(a, literals, make([]bool, 4))
		for i := range values {
			values[i] = !values[i]
		}
		if got := circuitCalls(4, list); got != want {
			t.Fatal("what is done with an answer changes the next one")
		}
		overwrite(literals)
		for i := range a.Gates {
			a.Gates[i] = impl.Gate{A: mark, B: mark}
		}
		if got := circuitCalls(4, list); got != want {
			t.Fatal("what is done with an answer of BuildAig changes the next one")
		}
	}
}

// circuitCalls writes down all that expressions are answered.
func circuitCalls(inputs int, list []impl.Ex) string {
	var b strings.Builder
	tell := func(code int, told ...any) { b.WriteString(fmt.Sprintln(append(told, impl.CodeWord(code))...)) }
	for _, e := range list {
		tell(0, impl.ExOK(e))
		value, code := impl.EvalEx(e, valuesOf(5, 4))
		tell(code, value)
	}
	a, literals, code := impl.BuildAig(inputs, list)
	tell(code, a.Inputs, len(a.Gates), len(literals), impl.AigOK(a))
	for _, g := range a.Gates {
		tell(0, g)
	}
	for _, literal := range append([]int{0, 1, 5}, literals...) {
		f, code := impl.Tseitin(a, literal)
		text, _ := impl.DimacsText(f)
		tell(code, literal, text)
	}
	values, code := impl.EvalAig(a, literals, valuesOf(3, a.Inputs))
	tell(code, len(values))
	for _, value := range values {
		tell(0, value)
	}
	return b.String()
}

func TestNothingIsKeptOfCircuits(t *testing.T) {
	r := chance()
	var lists [][]impl.Ex
	var answers []string
	for range 300 {
		list := someList(r, 4, 3, 40)
		if r.Intn(4) == 0 {
			list = append(list, oddEx(r, 3))
		}
		lists = append(lists, list)
		answers = append(answers, circuitCalls(4, list))
	}
	for _, i := range r.Perm(len(lists)) {
		if got := circuitCalls(4, lists[i]); got != answers[i] {
			t.Fatalf("%s was answered %q, then %q", brief(lists[i]), brief(answers[i]), brief(got))
		}
	}
}

func TestEmptyIsNilInCircuits(t *testing.T) {
	a, b := variable(1), impl.Ex{Kind: impl.ExVar, N: 1, Kids: []impl.Ex{}}
	if circuitCalls(4, []impl.Ex{a, not(a)}) != circuitCalls(4, []impl.Ex{b, not(b)}) || circuitCalls(4, nil) != circuitCalls(4, []impl.Ex{}) {
		t.Error("empty Kids, or an empty list, and nil are answered otherwise")
	}
	for _, empty := range []impl.Aig{{}, {Gates: []impl.Gate{}}} {
		for _, literals := range [][]int{nil, {}} {
			for _, values := range [][]bool{nil, {}} {
				if got, code := impl.EvalAig(empty, literals, values); code != 0 || len(got) != 0 {
					t.Error("EvalAig of nothing", got, code)
				}
			}
		}
	}
	for _, values := range [][]bool{nil, {}} {
		checkValue(t, constant(1), values, true)
	}
}
