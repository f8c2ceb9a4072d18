package tests

import (
	"fmt"
	"math"
	"math/rand"
	"strings"
	"testing"

	"loop.example/g00159/impl"
)

// Tests of promise 1: arguments stay, nothing panics, nothing hangs on earlier calls.

// oddNumbers are those at which arithmetic and comparisons go wrong first.
var oddNumbers = []int{
	0, 1, -1, 2, -2, 12, -12, 13, 39, 40, -40, 41, -41, 300, 301, 4096, 1 << 32, -1 << 32,
	math.MaxInt, math.MinInt, math.MinInt + 1, math.MaxInt32, math.MinInt32,
}

func oddList(r *rand.Rand) []int {
	list := make([]int, r.Intn(15))
	for i := range list {
		list[i] = oddNumbers[r.Intn(len(oddNumbers))]
	}
	return list
}

func oddCnf(r *rand.Rand) impl.Cnf {
	f := impl.Cnf{Vars: oddNumbers[r.Intn(len(oddNumbers))]}
	for range r.Intn(5) {
		f.Clauses = append(f.Clauses, oddList(r))
	}
	return f
}

func checkCode(t *testing.T, who string, code int) {
	t.Helper()
	if impl.CodeWord(code) == "" {
		t.Errorf("%s answers %d, which is no code", who, code)
	}
}

func TestNothingPanicsOnOddNumbers(t *testing.T) {
	r := chance()
	for range 20000 {
		f := oddCnf(r)
		right := impl.CnfOK(f)
		yes, code := impl.EvalCnf(f, make([]bool, r.Intn(45)))
		checkCode(t, "EvalCnf", code)
		if (code == impl.ErrBad) == right || code != 0 && yes {
			t.Fatalf("EvalCnf(%v) = %v, %d", f, yes, code)
		}
		text, code := impl.DimacsText(f)
		checkCode(t, "DimacsText", code)
		if (code == 0) != right || code != 0 && text != "" {
			t.Fatalf("DimacsText(%v) = %q, %d", f, text, code)
		}
		g, code := impl.NormalCnf(f)
		checkCode(t, "NormalCnf", code)
		if (code == 0) != right || code != 0 && !isZeroCnf(g) {
			t.Fatalf("NormalCnf(%v) = %v, %d", f, g, code)
		}
		c, code := impl.Resolve(oddList(r), oddList(r), oddNumbers[r.Intn(len(oddNumbers))])
		checkCode(t, "Resolve", code)
		if code != 0 && len(c) != 0 {
			t.Fatalf("Resolve = %v, %d", c, code)
		}
	}
}

func TestModelsNeverPanic(t *testing.T) {
	r := chance()
	for i := range 20000 {
		f := oddCnf(r)
		if i%2 == 0 {
			f = someCnf(r, impl.MaxVars, 12, impl.MaxWidth)
		}
		right := impl.CnfOK(f)
		follow, failed, code := impl.Propagate(f, oddList(r))
		checkCode(t, "Propagate", code)
		if (code == impl.ErrBad) == right || code != 0 && (len(follow) != 0 || failed != 0) || failed < -1 {
			t.Fatalf("Propagate(%v) = %v, %d, %d", f, follow, failed, code)
		}
		values, code := impl.LeastModel(f)
		checkCode(t, "LeastModel", code)
		if (code == impl.ErrBad) == right || code != 0 && len(values) != 0 || code == 0 && !cnfTrue(f, values) {
			t.Fatalf("LeastModel(%v) = %v, %d", f, values, code)
		}
		count, code := impl.CountModels(f)
		checkCode(t, "CountModels", code)
		if (code == impl.ErrBad) == right || code != 0 && count != 0 || (code == impl.ErrSize) != (right && f.Vars > impl.MaxCount) {
			t.Fatalf("CountModels(%v) = %d, %d", f, count, code)
		}
		clause := oddList(r)
		yes, code := impl.Implied(f, clause)
		checkCode(t, "Implied", code)
		if both := right && impl.CnfOK(impl.Cnf{Vars: f.Vars, Clauses: [][]int{clause}}); (code == 0) != both || code != 0 && yes {
			t.Fatalf("Implied(%v, %v) = %v, %d", f, clause, yes, code)
		}
	}
}

func oddSteps(r *rand.Rand) []impl.Step {
	var steps []impl.Step
	for range r.Intn(4) {
		steps = append(steps, impl.Step{Delete: r.Intn(2) == 0, Clause: oddList(r)})
	}
	return steps
}

func areRightSteps(steps []impl.Step, vars int) bool {
	for _, s := range steps {
		if !impl.CnfOK(impl.Cnf{Vars: vars, Clauses: [][]int{s.Clause}}) {
			return false
		}
	}
	return true
}

func TestProofsNeverPanic(t *testing.T) {
	r := chance()
	for i := range 20000 {
		f, steps, clause := oddCnf(r), oddSteps(r), oddList(r)
		if i%2 == 0 {
			f = wideCnf(r, impl.MaxVars, 12, impl.MaxWidth)
			steps = append(someSteps(r, f), steps...)
		}
		if i%4 == 0 {
			steps, clause = someSteps(r, f), someClause(r, f.Vars, 12)
		}
		right := impl.CnfOK(f)
		both := right && impl.CnfOK(impl.Cnf{Vars: f.Vars, Clauses: [][]int{clause}})
		rup, rupCode := impl.Rup(f, clause)
		rat, ratCode := impl.Rat(f, clause)
		checkCode(t, "Rup", rupCode)
		if (rupCode == 0) != both || ratCode != rupCode || rupCode != 0 && (rup || rat) {
			t.Fatalf("Rup(%v, %v) = %v, %d, Rat = %v, %d", f, clause, rup, rupCode, rat, ratCode)
		}
		at, code := impl.CheckProof(f, steps)
		checkCode(t, "CheckProof", code)
		if (code == impl.ErrBad) == (right && areRightSteps(steps, f.Vars)) || at < 0 || at > len(steps) || code == impl.ErrBad && at != 0 {
			t.Fatalf("CheckProof(%v, %v) = %d, %d", f, steps, at, code)
		}
		text, code := impl.ProofText(steps)
		checkCode(t, "ProofText", code)
		if (code == 0) != areRightSteps(steps, impl.MaxVars) || code != 0 && text != "" {
			t.Fatalf("ProofText(%v) = %q, %d", steps, text, code)
		}
		told, code := impl.Refutation(f)
		checkCode(t, "Refutation", code)
		if (code == impl.ErrBad) == right || (code == 0) != (len(told) > 0) {
			t.Fatalf("Refutation(%v) = %v, %d", f, told, code)
		}
	}
}

// someText is made of pieces that stand in texts of formulas, and of some that do not.
func someText(r *rand.Rand) string {
	pieces := []string{
		"p", "cnf", "c", "0", "1", "-1", "2", "-2", "3", "41", "-0", "00", "x", "-", " ", " ", " ",
		"\n", "\n", "\t", "\r", "p cnf 2 2\n", "p cnf 2 1\n", "1 0\n", "1 -2 0 ", "\x00", "\xff", "9999999999999999999",
	}
	var b strings.Builder
	if r.Intn(2) == 0 {
		b.WriteString("p cnf 2 " + string(byte('0'+r.Intn(3))) + "\n")
	}
	for range r.Intn(25) {
		b.WriteString(pieces[r.Intn(len(pieces))])
	}
	return b.String()
}

func TestReadDimacsNeverPanics(t *testing.T) {
	r := chance()
	read := 0
	for range 60000 {
		text := someText(r)
		f, code, at := impl.ReadDimacs(text)
		checkCode(t, "ReadDimacs", code)
		if code != 0 && (!isZeroCnf(f) || at < 0 || at > len(text)) {
			t.Fatalf("ReadDimacs(%q) = %v, %d, %d", text, f, code, at)
		}
		if code == 0 && (!impl.CnfOK(f) || at != 0) {
			t.Fatalf("ReadDimacs(%q) = %v, %d, %d", text, f, code, at)
		}
		if code == 0 {
			read++
		}
	}
	if read < 100 {
		t.Errorf("only %d texts were read: the test tells nothing", read)
	}
}

func TestReadProofNeverPanics(t *testing.T) {
	r := chance()
	read := 0
	for range 60000 {
		text := strings.ReplaceAll(strings.ReplaceAll(someText(r), "p", "d"), "cnf", "0\n")
		steps, code, at := impl.ReadProof(text)
		checkCode(t, "ReadProof", code)
		if code != 0 && (len(steps) != 0 || at < 0 || at > len(text)) {
			t.Fatalf("ReadProof(%q) = %v, %d, %d", text, steps, code, at)
		}
		if code != 0 {
			continue
		}
		if at != 0 || !areRightSteps(steps, impl.MaxVars) {
			t.Fatalf("ReadProof(%q) = %v, %d, %d", text, steps, code, at)
		}
		if len(steps) > 0 {
			read++
		}
	}
	if read < 100 {
		t.Errorf("only %d texts were read: the test tells nothing", read)
	}
}

func TestArgumentsStay(t *testing.T) {
	r := chance()
	for range 2000 {
		f := someCnf(r, 6, 6, 6)
		given := impl.Cnf{Vars: f.Vars, Clauses: roomyClauses(f.Clauses)}
		values := valuesOf(r.Intn(64), f.Vars)
		kept := append([]bool(nil), values...)
		impl.CnfOK(given)
		impl.EvalCnf(given, values)
		impl.DimacsText(given)
		impl.NormalCnf(given)
		impl.LeastModel(given)
		impl.CountModels(given)
		literals := someGiven(r, f.Vars)
		list := roomy(literals)
		impl.Propagate(given, list)
		impl.Implied(given, list)
		if !sameCnf(given, f) || !sameList(list, literals) {
			t.Fatalf("a call changes %v, %v to %v, %v", f, literals, given, list)
		}
		checkRoom(t, "a call of chapter 3", list)
		checkClauseRoom(t, "a call of chapters 2 and 3", given.Clauses)
		for i := range kept {
			if kept[i] != values[i] {
				t.Fatal("EvalCnf changes its values")
			}
		}
	}
}

func copyOfSteps(steps []impl.Step) []impl.Step {
	var list []impl.Step
	for _, s := range steps {
		list = append(list, impl.Step{Delete: s.Delete, Clause: append([]int(nil), s.Clause...)})
	}
	return list
}

func TestProofsLeaveTheirArguments(t *testing.T) {
	r := chance()
	for range 2000 {
		f := wideCnf(r, 6, 20, 3)
		given := impl.Cnf{Vars: f.Vars, Clauses: roomyClauses(f.Clauses)}
		steps, clause := someSteps(r, f), someClause(r, f.Vars, 5)
		all := make([]impl.Step, 0, len(steps)+4)
		for _, s := range steps {
			all = append(all, impl.Step{Delete: s.Delete, Clause: roomy(s.Clause)})
		}
		list := roomy(clause)
		impl.Rup(given, list)
		impl.Rat(given, list)
		impl.CheckProof(given, all)
		impl.ProofText(all)
		impl.Refutation(given)
		if !sameCnf(given, f) || !sameSteps(all, steps) || !sameList(list, clause) {
			t.Fatalf("a call changes %v, %v, %v to %v, %v, %v", f, steps, clause, given, all, list)
		}
		checkRoom(t, "a call of chapter 4", list)
		checkClauseRoom(t, "a call of chapter 4", given.Clauses)
		for _, s := range all {
			checkRoom(t, "a call of chapter 4", s.Clause)
		}
		for _, s := range all[:cap(all)][len(all):] {
			if s.Delete || s.Clause != nil {
				t.Fatal("a call of chapter 4 writes behind the end of its steps")
			}
		}
	}
}

func TestResolveLeavesItsClauses(t *testing.T) {
	r := chance()
	for range 5000 {
		a, b := someClause(r, 4, 12), someClause(r, 4, 12)
		givenA, givenB := roomy(a), roomy(b)
		impl.Resolve(givenA, givenB, 1+r.Intn(4))
		if !sameList(a, givenA) || !sameList(b, givenB) {
			t.Fatalf("Resolve changes %v, %v to %v, %v", a, b, givenA, givenB)
		}
		checkRoom(t, "Resolve", givenA)
		checkRoom(t, "Resolve", givenB)
	}
}

func TestOneListForBothClauses(t *testing.T) {
	both := []int{1, -1, 2}
	if got, code := impl.Resolve(both, both, 1); code != impl.ErrState || len(got) != 0 {
		t.Error("Resolve of one list", got, code)
	}
	if !sameList(both, []int{1, -1, 2}) {
		t.Error("Resolve changes its clause", both)
	}
}

// checkApart writes to one clause after the other, and looks at the others.
func checkApart(t *testing.T, who string, f impl.Cnf) {
	t.Helper()
	kept := copyOf(f)
	for i := len(f.Clauses) - 1; i >= 0; i-- {
		overwrite(f.Clauses[i])
		for j := range i {
			if !sameList(f.Clauses[j], kept.Clauses[j]) {
				t.Fatalf("%s: clauses %d and %d share memory", who, i, j)
			}
		}
	}
}

func TestAnswersAreNewMemory(t *testing.T) {
	r := chance()
	for range 500 {
		f := someCnf(r, 6, 6, 6)
		kept := copyOf(f)
		first, _ := impl.NormalCnf(f)
		want := copyOf(first)
		checkApart(t, "NormalCnf", first)
		if !sameCnf(f, kept) {
			t.Fatal("the answer of NormalCnf shares memory with its argument")
		}
		if again, _ := impl.NormalCnf(f); !sameCnf(again, want) {
			t.Fatal("what is done with an answer of NormalCnf changes the next one")
		}
		text, _ := impl.DimacsText(f)
		read, _, _ := impl.ReadDimacs(text)
		checkApart(t, "ReadDimacs", read)
		if again, code, at := impl.ReadDimacs(text); code != 0 || at != 0 || !sameCnf(again, f) {
			t.Fatal("what is done with an answer of ReadDimacs changes the next one")
		}
	}
}

func TestResolventIsNewMemory(t *testing.T) {
	for _, pair := range [][2][]int{{{1, 2, 3}, {-1}}, {{1}, {-1, 2, 3}}, {{2, 1}, {-1, 3}}, {{1}, {-1}}} {
		a, b := roomy(pair[0]), roomy(pair[1])
		got, code := impl.Resolve(a, b, 1)
		want := append([]int(nil), got...)
		overwrite(got)
		if code != 0 || !sameList(a, pair[0]) || !sameList(b, pair[1]) {
			t.Error("Resolve shares memory with its clauses", pair, code)
		}
		if again, _ := impl.Resolve(a, b, 1); !sameList(again, want) {
			t.Error("what is done with an answer of Resolve changes the next one")
		}
	}
}

func TestAnswersOfModelsAreNewMemory(t *testing.T) {
	r := chance()
	for range 1000 {
		f := wideCnf(r, 8, 12, 3)
		given := someGiven(r, f.Vars)
		keptCnf, keptGiven := copyOf(f), append([]int(nil), given...)
		follow, failed, _ := impl.Propagate(f, given)
		want := append([]int(nil), follow...)
		overwrite(follow)
		again, failedAgain, _ := impl.Propagate(f, given)
		if !sameCnf(f, keptCnf) || !sameList(given, keptGiven) || !sameList(again, want) || failed != failedAgain {
			t.Fatal("what is done with an answer of Propagate changes its arguments or the next one")
		}
		model, _ := impl.LeastModel(f)
		kept := append([]bool(nil), model...)
		for i := range model {
			model[i] = !model[i]
		}
		if next, _ := impl.LeastModel(f); !sameValues(next, kept) || !sameCnf(f, keptCnf) {
			t.Fatal("what is done with an answer of LeastModel changes the next one")
		}
	}
}

// checkStepsApart writes to one step after the other, and looks at the others.
func checkStepsApart(t *testing.T, who string, steps []impl.Step) {
	t.Helper()
	kept := copyOfSteps(steps)
	for i := len(steps) - 1; i >= 0; i-- {
		overwrite(steps[i].Clause)
		if !sameSteps(steps[:i], kept[:i]) {
			t.Fatalf("%s: step %d shares memory with one ahead", who, i)
		}
	}
}

func TestStepsAreNewMemory(t *testing.T) {
	r := chance()
	for range 500 {
		f := threes(r, 7, 50)
		kept := copyOf(f)
		steps, code := impl.Refutation(f)
		want := copyOfSteps(steps)
		text, _ := impl.ProofText(steps)
		checkStepsApart(t, "Refutation", steps)
		if again, codeAgain := impl.Refutation(f); !sameCnf(f, kept) || !sameSteps(again, want) || code != codeAgain {
			t.Fatal("what is done with an answer of Refutation changes its argument or the next one")
		}
		read, _, _ := impl.ReadProof(text)
		checkStepsApart(t, "ReadProof", read)
		checkRead(t, text, want)
	}
}

// calls writes down all that a formula is answered.
func calls(f impl.Cnf) string {
	var b strings.Builder
	tell := func(s string, code int) { b.WriteString(s + " " + impl.CodeWord(code) + ";") }
	text, code := impl.DimacsText(f)
	tell(text, code)
	normal, code := impl.NormalCnf(f)
	normalText, _ := impl.DimacsText(normal)
	tell(normalText, code)
	for number := range 8 {
		yes, code := impl.EvalCnf(f, valuesOf(number, 3))
		tell(map[bool]string{false: "no", true: "yes"}[yes], code)
	}
	values, code := impl.LeastModel(f)
	tell(fmt.Sprint(values), code)
	count, code := impl.CountModels(f)
	tell(fmt.Sprint(count), code)
	for v := -3; v <= 3; v++ {
		follow, failed, code := impl.Propagate(f, []int{v})
		tell(fmt.Sprint(follow, failed), code)
		yes, code := impl.Implied(f, []int{v, 1})
		tell(fmt.Sprint(yes), code)
		yes, code = impl.Rup(f, []int{v})
		tell(fmt.Sprint(yes), code)
		yes, code = impl.Rat(f, []int{v, 1})
		tell(fmt.Sprint(yes), code)
		at, code := impl.CheckProof(f, []impl.Step{step(v), removal(v), step(1, -2), step()})
		tell(fmt.Sprint(at), code)
	}
	steps, code := impl.Refutation(f)
	proof, _ := impl.ProofText(steps)
	tell(proof, code)
	read, code, at := impl.ReadProof(proof + text)
	tell(fmt.Sprint(read, at), code)
	for i := 1; i < len(f.Clauses); i++ {
		c, code := impl.Resolve(f.Clauses[i-1], f.Clauses[i], 1)
		resolvent, _ := impl.DimacsText(impl.Cnf{Vars: impl.MaxVars, Clauses: [][]int{c}})
		tell(resolvent, code)
	}
	return b.String()
}

func TestNothingIsKept(t *testing.T) {
	r := chance()
	var list []impl.Cnf
	var answers []string
	for range 200 {
		f := someCnf(r, 3, 5, 4)
		if r.Intn(4) == 0 {
			f = oddCnf(r)
		}
		list = append(list, f)
		answers = append(answers, calls(f))
	}
	for _, i := range r.Perm(len(list)) {
		if got := calls(list[i]); got != answers[i] {
			t.Fatalf("%v was answered %q, then %q", list[i], answers[i], got)
		}
	}
}

func TestEmptyIsNil(t *testing.T) {
	a := impl.Cnf{Vars: 3, Clauses: [][]int{nil, {1}}}
	b := impl.Cnf{Vars: 3, Clauses: [][]int{{}, {1}}}
	if calls(a) != calls(b) {
		t.Error("an empty clause and a nil one are answered otherwise")
	}
	c := impl.Cnf{Vars: 3, Clauses: [][]int{}}
	if calls(c) != calls(impl.Cnf{Vars: 3}) {
		t.Error("no clauses and nil are answered otherwise")
	}
	for _, values := range [][]bool{nil, {}} {
		if yes, code := impl.EvalCnf(impl.Cnf{}, values); !yes || code != 0 {
			t.Error("EvalCnf of nothing", yes, code)
		}
	}
	for _, clause := range [][]int{nil, {}} {
		if _, code := impl.Resolve(clause, []int{-1}, 1); code != impl.ErrNone {
			t.Error("Resolve of an empty clause", code)
		}
		checkPropagate(t, impl.Cnf{Vars: 1, Clauses: [][]int{{-1}}}, clause, toldOf{[]int{-1}, -1})
		checkImplied(t, impl.Cnf{Vars: 1}, clause, false)
		checkRupRat(t, impl.Cnf{Vars: 1}, clause, false, false)
		checkProof(t, impl.Cnf{Clauses: [][]int{clause}}, []impl.Step{{Delete: true, Clause: clause}, {Clause: clause}}, 1, impl.ErrState)
		if text, code := impl.ProofText([]impl.Step{{Clause: clause}}); text != "0\n" || code != 0 {
			t.Error("ProofText of an empty clause", text, code)
		}
	}
	for _, steps := range [][]impl.Step{nil, {}} {
		checkProof(t, impl.Cnf{}, steps, 0, impl.ErrForm)
		if text, code := impl.ProofText(steps); text != "" || code != 0 {
			t.Error("ProofText of nothing", text, code)
		}
	}
}

func TestLongAheadOfAll(t *testing.T) {
	wrong := impl.Cnf{Vars: -1}
	if _, code := impl.EvalCnf(wrong, make([]bool, impl.MaxList)); code != impl.ErrBad {
		t.Error("EvalCnf, MaxList values", code)
	}
	if yes, code := impl.EvalCnf(wrong, make([]bool, impl.MaxList+1)); yes || code != impl.ErrLong {
		t.Error("EvalCnf, one more than MaxList values", yes, code)
	}
	if _, code := impl.EvalCnf(impl.Cnf{}, make([]bool, impl.MaxList)); code != impl.ErrRange {
		t.Error("EvalCnf, MaxList values", code)
	}
	if _, code := impl.EvalCnf(impl.Cnf{}, make([]bool, impl.MaxList+1)); code != impl.ErrLong {
		t.Error("EvalCnf, one more than MaxList values", code)
	}
	most, more := repeated(1, impl.MaxList), repeated(1, impl.MaxList+1)
	for _, c := range []struct {
		a, b []int
		code int
	}{{most, most, impl.ErrBad}, {more, nil, impl.ErrLong}, {nil, more, impl.ErrLong}, {[]int{0}, more, impl.ErrLong}, {most, more, impl.ErrLong}} {
		if got, code := impl.Resolve(c.a, c.b, 0); code != c.code || len(got) != 0 {
			t.Error("Resolve", len(c.a), len(c.b), code)
		}
	}
}

// TestListsWithinStructs: MaxList does not bound them, the chapter alone does.
func TestListsWithinStructs(t *testing.T) {
	for _, f := range []impl.Cnf{
		{Vars: 1, Clauses: make([][]int, impl.MaxList+1)},
		{Vars: 1, Clauses: [][]int{repeated(1, impl.MaxList+1)}},
	} {
		_, evalCode := impl.EvalCnf(f, []bool{true})
		_, textCode := impl.DimacsText(f)
		_, normalCode := impl.NormalCnf(f)
		_, _, propagateCode := impl.Propagate(f, nil)
		_, leastCode := impl.LeastModel(f)
		_, countCode := impl.CountModels(f)
		_, impliedCode := impl.Implied(f, nil)
		_, rupCode := impl.Rup(f, nil)
		_, ratCode := impl.Rat(f, nil)
		_, checkedCode := impl.CheckProof(f, nil)
		_, refutationCode := impl.Refutation(f)
		if rupCode != impl.ErrBad || ratCode != impl.ErrBad || checkedCode != impl.ErrBad || refutationCode != impl.ErrBad {
			t.Error("a long list within a formula", rupCode, ratCode, checkedCode, refutationCode)
		}
		if propagateCode != impl.ErrBad || leastCode != impl.ErrBad || countCode != impl.ErrBad || impliedCode != impl.ErrBad {
			t.Error("a long list within a formula", propagateCode, leastCode, countCode, impliedCode)
		}
		if impl.CnfOK(f) || evalCode != impl.ErrBad || textCode != impl.ErrBad || normalCode != impl.ErrBad {
			t.Error("a long list within a formula", evalCode, textCode, normalCode)
		}
	}
}

// TestListsWithinSteps: MaxList does not bound them, MaxWidth does.
func TestListsWithinSteps(t *testing.T) {
	steps := []impl.Step{step(repeated(1, impl.MaxList+1)...)}
	checkProof(t, impl.Cnf{Vars: 1}, steps, 0, impl.ErrBad)
	if text, code := impl.ProofText(steps); text != "" || code != impl.ErrBad {
		t.Error("ProofText of a long clause", len(text), code)
	}
}

func TestLongProofText(t *testing.T) {
	most := "d 1 0" + strings.Repeat(" ", impl.MaxText-5)
	checkRead(t, most, []impl.Step{removal(1)})
	if steps, code, at := impl.ReadProof(most + " "); code != impl.ErrLong || at != 0 || len(steps) != 0 {
		t.Error("ReadProof of one byte more", steps, code, at)
	}
	if _, code, at := impl.ReadProof("1" + strings.Repeat(" ", impl.MaxText-1)); code != impl.ErrSyntax || at != impl.MaxText {
		t.Error("ReadProof of a long line", code, at)
	}
	if _, code, at := impl.ReadProof(strings.Repeat("x", impl.MaxText+1)); code != impl.ErrLong || at != 0 {
		t.Error("ReadProof of a long word", code, at)
	}
	checkRead(t, strings.Repeat("\n", impl.MaxText), nil)
	if _, code, at := impl.ReadProof(strings.Repeat("0\n", impl.MaxText/2)); code != impl.ErrMany || at != 2*impl.MaxSteps {
		t.Error("ReadProof of many lines", code, at)
	}
}

func TestLongText(t *testing.T) {
	head := "p cnf 1 1\n1 0"
	most := head + strings.Repeat(" ", impl.MaxText-len(head))
	if f, code, at := impl.ReadDimacs(most); code != 0 || at != 0 || f.Vars != 1 || len(f.Clauses) != 1 {
		t.Error("ReadDimacs of MaxText bytes", f, code, at)
	}
	if f, code, at := impl.ReadDimacs(most + " "); code != impl.ErrLong || at != 0 || !isZeroCnf(f) {
		t.Error("ReadDimacs of one byte more", f, code, at)
	}
	if _, code, at := impl.ReadDimacs(strings.Repeat("x", impl.MaxText)); code != impl.ErrSyntax || at != 0 {
		t.Error("ReadDimacs of a long word", code, at)
	}
	if _, code, at := impl.ReadDimacs(strings.Repeat("x", impl.MaxText+1)); code != impl.ErrLong || at != 0 {
		t.Error("ReadDimacs of a longer word", code, at)
	}
	if _, code, at := impl.ReadDimacs(strings.Repeat("\n", impl.MaxText)); code != impl.ErrSyntax || at != impl.MaxText {
		t.Error("ReadDimacs of line ends", code, at)
	}
}
