package tests

import (
	"math/rand"
	"testing"

	"loop.example/g00159/impl"
)

// Tests of promise 10: which answers check.

func checkAnswer(t *testing.T, inputs int, e impl.Ex, a impl.Answer, want bool, wantCode int) {
	t.Helper()
	if got, code := impl.CheckAnswer(inputs, e, a); got != want || code != wantCode {
		t.Fatalf("CheckAnswer(%d, %s, %s) = %v, %d, not %v, %d", inputs, brief(e), brief(a), got, code, want, wantCode)
	}
}

// slowAnswer says, one sentence behind the other, whether an answer checks.
func slowAnswer(inputs int, e impl.Ex, a impl.Answer) (bool, int) {
	f, code := slowClaim(inputs, e)
	if code != 0 {
		return false, code
	}
	if !a.Valid {
		if len(a.Values) != inputs || len(a.Steps) > 0 {
			return false, impl.ErrRange
		}
		return slowValue(e, a.Values) == 0, 0
	}
	if len(a.Values) > 0 || len(a.Steps) > 200 || !areRightSteps(a.Steps, f.Vars) {
		return false, impl.ErrRange
	}
	_, code = slowCheck(f, a.Steps)
	return code == 0, 0
}

// TestAllValuesOfAnswers: of all values those check of which the expression is false, be they the first or not.
func TestAllValuesOfAnswers(t *testing.T) {
	r := chance()
	count := map[bool]int{}
	for i := range 600 {
		inputs := r.Intn(8)
		e := someEx(r, inputs, 1+r.Intn(30), 1+r.Intn(6))
		if i%4 == 0 {
			e = someClaim(r, inputs, 10)
		}
		if _, code := slowClaim(inputs, e); code != 0 {
			continue
		}
		for number := range 1 << inputs {
			values := valuesOf(number, inputs)
			want := slowValue(e, values) == 0
			checkAnswer(t, inputs, e, impl.Answer{Values: values}, want, 0)
			count[want]++
		}
	}
	if count[false] < 3000 || count[true] < 3000 {
		t.Errorf("%v values check: the test tells little", count)
	}
}

func TestAnswersOfValues(t *testing.T) {
	a, b, no, yes := variable(0), variable(1), constant(0), constant(1)
	for _, row := range []struct {
		inputs int
		e      impl.Ex
		values string
		want   bool
	}{
		// No inputs: of constants there are values all the same, none.
		{0, no, "", true}, {0, yes, "", false}, {0, not(no), "", false}, {0, xor(yes, yes), "", true},
		{1, no, "0", true}, {1, no, "1", true}, {1, yes, "0", false}, {1, yes, "1", false},
		{1, a, "0", true}, {1, a, "1", false}, {1, not(a), "0", false}, {1, not(a), "1", true},
		// Any of which it is false, not the first alone; of others that it does not hang on too.
		{2, and(a, b), "00", true}, {2, and(a, b), "01", true}, {2, and(a, b), "10", true}, {2, and(a, b), "11", false},
		{3, or(a, b), "001", true}, {3, or(a, b), "000", true}, {3, or(a, b), "011", false}, {12, variable(11), "111111111110", true}, {12, variable(11), "000000000001", false},
		// True of all values: none checks.
		{1, or(a, not(a)), "0", false}, {1, or(a, not(a)), "1", false}, {2, not(xor(ite(a, b, b), b)), "01", false},
	} {
		checkAnswer(t, row.inputs, row.e, falseOf(row.values), row.want, 0)
	}
}

func TestAnswersOfSteps(t *testing.T) {
	a, b, no, yes := variable(0), variable(1), constant(0), constant(1)
	// Its nodes: 3 and 4 are (a and b) and (not a and b), 5 the opposite of their or, 6 and 7 the ways in which that and b differ, 8 that they do not.
	same := not(xor(ite(a, b, b), b))
	for _, row := range []struct {
		inputs int
		e      impl.Ex
		steps  []impl.Step
		want   bool
	}{
		// The formula of 1 has an empty clause, that of 0 none at all.
		{0, yes, []impl.Step{step()}, true}, {12, yes, []impl.Step{step()}, true}, {0, yes, nil, false}, {12, yes, nil, false},
		{0, no, []impl.Step{step()}, false}, {3, no, []impl.Step{step()}, false}, {3, no, []impl.Step{step(1), step(-1), step()}, false}, {0, no, nil, false},
		{1, a, []impl.Step{step()}, false}, {1, a, []impl.Step{step(-1), step()}, false}, {1, a, []impl.Step{step(1), step()}, false}, {1, not(a), []impl.Step{step()}, false},
		{1, or(a, not(a)), []impl.Step{step()}, true}, {1, or(a, not(a)), []impl.Step{step(1), step(-1), step()}, true},
		// Other steps than those of the refutation.
		{2, same, []impl.Step{step(1, 2), step(1, -2), step(1), step(-1, 2), step(-1, -2), step(-1), step()}, true},
		{2, same, []impl.Step{step(2), step()}, true}, {2, same, []impl.Step{step(-2), step()}, true}, {2, same, []impl.Step{step(-6), step()}, true}, {2, same, []impl.Step{step(1), step()}, false},
		{2, same, []impl.Step{step()}, false}, {2, same, []impl.Step{step(2)}, false}, {2, same, nil, false}, {2, same, []impl.Step{step(1, 2), step(1, -2), step(1), step()}, false},
		// What stands behind the end is not looked at, but for its clauses.
		{2, same, []impl.Step{step(2), step(), removal(1), step(-1), step(8)}, true},
		{2, same, []impl.Step{step(2), removal(1, 2), step()}, false}, {2, same, []impl.Step{step(2), removal(2), step()}, false}, {2, same, []impl.Step{step(2), step(2), removal(2), step()}, true},
		// The clause of the opposite is one of the formula.
		{2, same, []impl.Step{removal(-8), step(2), step()}, false}, {2, same, []impl.Step{step(2), step(-8), removal(-8), step()}, true}, {2, same, []impl.Step{removal(8), step(2), step()}, false},
		{1, or(a, not(a)), []impl.Step{removal(), step()}, false}, {1, or(a, not(a)), []impl.Step{step(1), removal(), step()}, false},
	} {
		checkAnswer(t, row.inputs, row.e, proved(row.steps...), row.want, 0)
	}
}

// TestStepsOfAnotherExpression: the opposite of one, and one with other gates, have steps that do not check for it.
func TestStepsOfAnotherExpression(t *testing.T) {
	a, b, c := variable(0), variable(1), variable(2)
	first, second := not(xor(ite(a, b, b), b)), not(xor(and(a, or(b, c)), or(and(a, b), and(a, c))))
	for _, pair := range [][2]impl.Ex{{first, not(first)}, {second, not(second)}, {first, or(a, b)}, {second, or(a, or(b, c))}, {second, xor(and(a, or(b, c)), or(and(a, b), and(b, c)))}} {
		answer, code := impl.Prove(3, pair[0])
		if code != 0 || !answer.Valid {
			t.Fatalf("Prove(3, %s) = %s, %d", brief(pair[0]), brief(answer), code)
		}
		checkAnswer(t, 3, pair[0], answer, true, 0)
		if f, _ := slowClaim(3, pair[1]); areRightSteps(answer.Steps, f.Vars) {
			checkAnswer(t, 3, pair[1], answer, false, 0)
		}
	}
}

// TestStepsThatTheRefutationHasNot: where the refutation has no room, other steps may check all the same.
func TestStepsThatTheRefutationHasNot(t *testing.T) {
	for inputs := 8; inputs <= impl.MaxInputs; inputs++ {
		e := tooManySteps()
		checkProveFault(t, inputs, e, impl.ErrMany)
		f, _ := slowClaim(inputs, e)
		// The last gates are both ways in which two may differ, and that they do not.
		checkAnswer(t, inputs, e, proved(step(2-f.Vars), step()), true, 0)
		checkAnswer(t, inputs, e, proved(step(1-f.Vars), step()), true, 0)
		checkAnswer(t, inputs, e, proved(step()), false, 0)
		checkAnswer(t, inputs, e, impl.Answer{Values: make([]bool, inputs)}, false, 0)
	}
}

// TestHowManyStepsOfAnswers: MaxSteps are taken, one more are not, nor MaxList or more.
func TestHowManyStepsOfAnswers(t *testing.T) {
	e := or(variable(0), not(variable(0)))
	for _, row := range []struct {
		count int
		code  int
	}{{1, 0}, {impl.MaxSteps, 0}, {impl.MaxSteps + 1, impl.ErrRange}, {impl.MaxList, impl.ErrRange}, {impl.MaxList + 1, impl.ErrRange}, {100000, impl.ErrRange}} {
		checkAnswer(t, 1, e, proved(repeatedStep(step(), row.count)...), row.code == 0, row.code)
		checkAnswer(t, 1, variable(0), proved(repeatedStep(step(), row.count)...), false, row.code)
		checkAnswer(t, 1, e, proved(append(repeatedStep(step(1), row.count-1), step())...), row.code == 0, row.code)
	}
	checkAnswer(t, 7, mostSteps(), proved(repeatedStep(step(1, -1), impl.MaxSteps)...), false, 0)
}

// spoiltAnswer changes some of an answer, mostly so that it does not check, or is not even of the form that is due.
func spoiltAnswer(r *rand.Rand, f impl.Cnf, a impl.Answer) impl.Answer {
	a.Values, a.Steps = append([]bool(nil), a.Values...), copyOfSteps(a.Steps)
	place := 0
	if len(a.Steps) > 0 {
		place = r.Intn(len(a.Steps))
	}
	switch kind := r.Intn(10); {
	case kind == 0:
		a.Valid = !a.Valid
	case kind == 1 && len(a.Values) > 0:
		a.Values = a.Values[1:]
	case kind == 2:
		a.Values = append(a.Values, r.Intn(2) == 0)
	case kind == 3 && len(a.Values) > 0:
		n := r.Intn(len(a.Values))
		a.Values[n] = !a.Values[n]
	case kind == 4 && len(a.Steps) > 0:
		a.Steps = append(a.Steps[:place:place], a.Steps[place+1:]...)
	case kind == 5 && len(a.Steps) > 0:
		a.Steps[place].Delete = !a.Steps[place].Delete
	case kind == 6 && len(a.Steps) > 0 && len(a.Steps[place].Clause) > 0:
		clause := a.Steps[place].Clause
		clause[r.Intn(len(clause))] *= -1
	case kind == 7 && len(a.Steps) > 0:
		clause := a.Steps[place].Clause
		a.Steps[place].Clause = append(clause, []int{f.Vars, -f.Vars, f.Vars + 1, 0, -1, 1}[r.Intn(6)])
	case kind == 8 && f.Vars > 0:
		a.Steps = append(a.Steps[:place:place], append([]impl.Step{someStep(r, f, a.Steps[:place])}, a.Steps[place:]...)...)
	}
	return a
}

func TestSpoiltAnswers(t *testing.T) {
	r := chance()
	type kind struct {
		valid, checks bool
		code          int
	}
	count := map[kind]int{}
	for i := range 6000 {
		inputs := r.Intn(6)
		e := someClaim(r, inputs, 10)
		if i%3 == 0 {
			e = someEx(r, inputs, 1+r.Intn(30), 1+r.Intn(6))
		}
		f, _ := slowClaim(inputs, e)
		a, code := impl.Prove(inputs, e)
		if code != 0 {
			continue
		}
		checkAnswer(t, inputs, e, a, true, 0)
		for range 3 {
			a = spoiltAnswer(r, f, a)
			want, code := slowAnswer(inputs, e, a)
			checkAnswer(t, inputs, e, a, want, code)
			count[kind{a.Valid, want, code}]++
		}
	}
	for _, one := range []kind{{false, false, 0}, {false, true, 0}, {true, false, 0}, {true, true, 0}, {false, false, impl.ErrRange}, {true, false, impl.ErrRange}} {
		if count[one] < 200 {
			t.Errorf("%v: the test tells little", count)
			break
		}
	}
}

// TestWhatChecksIsSo: whatever steps there are, they do not check for an expression that is false of some values.
func TestWhatChecksIsSo(t *testing.T) {
	r := chance()
	checked, refused := 0, 0
	for range 8000 {
		inputs := r.Intn(5)
		e := someEx(r, inputs, 1+r.Intn(16), 1+r.Intn(5))
		f, code := slowClaim(inputs, e)
		if code != 0 {
			continue
		}
		// Clauses of one or two literals, of inputs and gates, are often RUP or RAT.
		var steps []impl.Step
		for range r.Intn(6) {
			steps = append(steps, step(someClause(r, f.Vars, 2)...))
		}
		steps = append(steps, step())
		yes, code := impl.CheckAnswer(inputs, e, proved(steps...))
		_, isFalse := firstFalse(inputs, e)
		if code != 0 || yes && isFalse {
			t.Fatalf("CheckAnswer(%d, %s, %v) = %v, %d", inputs, brief(e), steps, yes, code)
		}
		if yes {
			checked++
		} else {
			refused++
		}
	}
	if checked < 500 || refused < 500 {
		t.Errorf("%d checked, %d refused: the test tells little", checked, refused)
	}
}
