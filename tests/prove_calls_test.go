package tests

import (
	"fmt"
	"math/rand"
	"slices"
	"strings"
	"sync"
	"testing"

	"loop.example/g00159/impl"
)

// Tests of promise 1, of proving: arguments stay, nothing panics, answers are new memory, nothing hangs on earlier calls.

// proving is what is handed in to the calls of chapter 10.
type proving struct {
	inputs               int
	e                    impl.Ex
	a                    impl.Answer
	n, m                 impl.Net
	at, to, from, toward int
}

// someProving is right, but that the answer may not check, and the formula may have no room.
func someProving(r *rand.Rand) proving {
	p := proving{inputs: r.Intn(6), n: filteredNet(r), m: filteredNet(r)}
	p.e = someClaim(r, p.inputs, 12)
	if r.Intn(3) == 0 {
		p.e = someEx(r, p.inputs, 1+r.Intn(40), 1+r.Intn(6))
	}
	p.a, _ = impl.Prove(p.inputs, p.e)
	if f, code := slowClaim(p.inputs, p.e); code == 0 && r.Intn(3) == 0 {
		p.a = spoiltAnswer(r, f, p.a)
	}
	p.at, p.to = r.Intn(len(p.n.Routers)), r.Intn(len(p.n.Routers))
	p.from, p.toward = r.Intn(len(p.m.Routers)), r.Intn(len(p.m.Routers))
	return p
}

func copyOfProving(p proving) proving {
	p.e, p.n, p.m = roomyEx(p.e), copyOfNet(p.n), copyOfNet(p.m)
	p.a.Values, p.a.Steps = slices.Clone(p.a.Values), copyOfSteps(p.a.Steps)
	return p
}

// stirProving changes some of what is asked, mostly to something wrong.
func stirProving(r *rand.Rand, p proving) proving {
	p = copyOfProving(p)
	numbers := []*int{&p.inputs, &p.at, &p.to, &p.from, &p.toward}
	switch kind := r.Intn(12); {
	case kind == 0:
		p.e = oddEx(r, 1+r.Intn(4))
	case kind == 1:
		p.e = someEx(r, impl.MaxInputs, 1+r.Intn(100), 8)
	case kind == 2:
		p.a.Values = make([]bool, r.Intn(14))
	case kind == 3:
		p.a.Steps = oddSteps(r)
	case kind == 4:
		p.a.Valid = !p.a.Valid
	case kind == 5 && len(p.n.Routers) > 0:
		p.n = spoilt(r, p.n)
	case kind == 6 && len(p.m.Routers) > 0:
		p.m = spoilt(r, p.m)
	case kind == 7:
		p.n = oddNet(r)
	case kind == 8:
		p.m = oddNet(r)
	default:
		*numbers[r.Intn(len(numbers))] = oddNumber(r)
	}
	return p
}

// slowFilterCode and slowApartCode say which code is told first, one sentence behind the other.
func slowFilterCode(p proving) int {
	if !slowNetOK(p.n) {
		return impl.ErrBad
	}
	if last := len(p.n.Routers) - 1; !between(p.at, 0, last) || !between(p.to, 0, last) {
		return impl.ErrRange
	}
	if !impl.ExOK(slowFilterEx(p.n.Filters, p.at, p.to)) {
		return impl.ErrSize
	}
	return 0
}

func slowApartCode(p proving) int {
	if !slowNetOK(p.n) || !slowNetOK(p.m) {
		return impl.ErrBad
	}
	if last := len(p.n.Routers) - 1; !between(p.at, 0, last) || !between(p.to, 0, last) {
		return impl.ErrRange
	}
	if last := len(p.m.Routers) - 1; !between(p.from, 0, last) || !between(p.toward, 0, last) {
		return impl.ErrRange
	}
	_, code := slowApart(slowFiltered(p.n, p.at, p.to), slowFiltered(p.m, p.from, p.toward))
	return code
}

func TestProvingNeverPanics(t *testing.T) {
	r := chance()
	seen := map[string]int{}
	for range 15000 {
		p := someProving(r)
		for range r.Intn(4) {
			p = stirProving(r, p)
		}
		want, code := slowProve(p.inputs, p.e)
		got, gotCode := impl.Prove(p.inputs, p.e)
		if gotCode != code || !sameAnswer(got, want) {
			t.Fatalf("Prove(%d, %s) = %s, %d, not %s, %d", p.inputs, brief(p.e), brief(got), gotCode, brief(want), code)
		}
		seen[fmt.Sprint("Prove", code)]++
		yes, code := slowAnswer(p.inputs, p.e, p.a)
		checkAnswer(t, p.inputs, p.e, p.a, yes, code)
		seen[fmt.Sprint("CheckAnswer", yes, code)]++
		e, code := impl.FilterEx(p.n, p.at, p.to)
		if code != slowFilterCode(p) || (code == 0) != impl.ExOK(e) || code != 0 && !sameEx(e, impl.Ex{}) {
			t.Fatalf("FilterEx(%v, %d, %d) = %s, %d", p.n, p.at, p.to, brief(e), code)
		}
		seen[fmt.Sprint("FilterEx", code)]++
		port, code := impl.FilterApart(p.n, p.at, p.to, p.m, p.from, p.toward)
		if code != slowApartCode(p) || !between(port, 0, 15) || code != 0 && port != 0 {
			t.Fatalf("FilterApart(%v, %d, %d, %v, %d, %d) = %d, %d", p.n, p.at, p.to, p.m, p.from, p.toward, port, code)
		}
		seen[fmt.Sprint("FilterApart", code)]++
	}
	for _, name := range []string{"Prove0", "Prove1", "Prove5", "CheckAnswertrue 0", "CheckAnswerfalse 0", "CheckAnswerfalse 1", "CheckAnswerfalse 5", "FilterEx0", "FilterEx1", "FilterEx5", "FilterApart0", "FilterApart1", "FilterApart5", "FilterApart6"} {
		if seen[name] < 200 {
			t.Errorf("%v: the test tells little", seen)
			return
		}
	}
}

// provingCalls writes down all that is answered.
func provingCalls(p proving) string {
	var b strings.Builder
	a, code := impl.Prove(p.inputs, p.e)
	fmt.Fprintln(&b, a.Valid, a.Values, a.Steps, code)
	yes, code := impl.CheckAnswer(p.inputs, p.e, p.a)
	fmt.Fprintln(&b, yes, code)
	yes, code = impl.CheckAnswer(p.inputs, p.e, a)
	fmt.Fprintln(&b, yes, code)
	e, code := impl.FilterEx(p.n, p.at, p.to)
	fmt.Fprintln(&b, e, code)
	port, code := impl.FilterApart(p.n, p.at, p.to, p.m, p.from, p.toward)
	fmt.Fprintln(&b, port, code)
	return b.String()
}

func sameProving(a, b proving) bool {
	return sameEx(a.e, b.e) && sameAnswer(a.a, b.a) && sameNet(a.n, b.n) && sameNet(a.m, b.m)
}

func roomyNet(n impl.Net) impl.Net {
	return impl.Net{
		Routers: roomyOf(n.Routers), Links: roomyOf(n.Links), Origins: roomyOf(n.Origins),
		Externals: roomyOf(n.Externals), Imports: roomyOf(n.Imports), Filters: roomyOf(n.Filters),
	}
}

func isUntouchedNet(n impl.Net) bool {
	return hasNothingBehind(n.Routers) && hasNothingBehind(n.Links) && hasNothingBehind(n.Origins) && hasNothingBehind(n.Externals) && hasNothingBehind(n.Imports) && hasNothingBehind(n.Filters)
}

func TestProvingLeavesItsArguments(t *testing.T) {
	r := chance()
	for i := range 4000 {
		kept := someProving(r)
		if i%3 == 0 {
			kept = stirProving(r, kept)
		}
		p := kept
		p.e, p.n, p.m = roomyEx(kept.e), roomyNet(kept.n), roomyNet(kept.m)
		p.a.Values, p.a.Steps = roomyOf(kept.a.Values), roomyOf(kept.a.Steps)
		for i := range p.a.Steps {
			p.a.Steps[i].Clause = roomy(p.a.Steps[i].Clause)
		}
		provingCalls(p)
		if !sameProving(p, kept) {
			t.Fatalf("a call of chapter 10 changes %v to %v", kept, p)
		}
		for _, s := range p.a.Steps {
			checkRoom(t, "CheckAnswer", s.Clause)
		}
		for _, s := range p.a.Steps[len(p.a.Steps):cap(p.a.Steps)] {
			if s.Delete || s.Clause != nil {
				t.Fatal("CheckAnswer writes behind the end of its steps")
			}
		}
		if !isUntouched(p.e) || !isUntouchedNet(p.n) || !isUntouchedNet(p.m) || !hasNothingBehind(p.a.Values) {
			t.Fatal("a call of chapter 10 writes behind the end of an argument")
		}
	}
}

// TestProvingIsNewMemory spoils all that is answered, and looks at the arguments and at the next answers.
func TestProvingIsNewMemory(t *testing.T) {
	r := chance()
	for range 2000 {
		p := someProving(r)
		kept, want := copyOfProving(p), provingCalls(p)
		a, _ := impl.Prove(p.inputs, p.e)
		spoilAll(a.Values, true)
		checkStepsApart(t, "Prove", a.Steps)
		if e, code := impl.FilterEx(p.n, p.at, p.to); code == 0 {
			checkOwn(t, "FilterEx", []impl.Ex{e})
		}
		if !sameProving(p, kept) {
			t.Fatal("an answer shares memory with an argument")
		}
		if got := provingCalls(p); got != want {
			t.Fatalf("%s was answered %q, then %q", brief(p), brief(want), brief(got))
		}
	}
	// Filters that are alike have lists of their own, too.
	e, _ := impl.FilterEx(pairNet(3, 9, 3, 9, 3, 9, 3, 9), 0, 1)
	checkOwn(t, "FilterEx", []impl.Ex{e})
	checkFilterEx(t, pairNet(3, 9, 3, 9, 3, 9, 3, 9), 0, 1)
}

func TestNothingIsKeptOfProving(t *testing.T) {
	r := chance()
	var list []proving
	var answers []string
	for i := range 1000 {
		p := someProving(r)
		if i%3 == 0 {
			p = stirProving(r, p)
		}
		list, answers = append(list, p), append(answers, provingCalls(p))
	}
	for _, i := range r.Perm(len(list)) {
		if got := provingCalls(list[i]); got != answers[i] {
			t.Fatalf("%s was answered %q, then %q", brief(list[i]), brief(answers[i]), brief(got))
		}
	}
	// What is handed in is looked at anew, be it at the same place or not.
	e, n := or(variable(0), variable(1)), pairNet(2, 5)
	checkProve(t, 2, e, falseOf("00"))
	checkFilterEx(t, n, 0, 1)
	checkApartOf(t, n, 0, 1, n, 1, 0, 2, 0)
	e.Kids[0], n.Filters[0].Low = not(variable(1)), 4
	checkProve(t, 2, e, proved(step()))
	checkFilterEx(t, n, 0, 1)
	checkApartOf(t, n, 0, 1, n, 1, 0, 4, 0)
	e.Kids[0], n.Filters[0].Low = variable(0), 2
	checkProve(t, 2, e, falseOf("00"))
	checkApartOf(t, n, 0, 1, n, 1, 0, 2, 0)
}

// TestProvingAtOnce has several ask of the same arguments at once.
func TestProvingAtOnce(t *testing.T) {
	r := chance()
	for range 300 {
		p := someProving(r)
		want := provingCalls(p)
		var got [4]string
		var all sync.WaitGroup
		for i := range got {
			all.Go(func() { got[i] = provingCalls(p) })
		}
		all.Wait()
		for _, one := range got {
			if one != want {
				t.Fatalf("%s was answered %q, and at once with others %q", brief(p), brief(want), brief(one))
			}
		}
	}
}

func TestEmptyIsNilInProving(t *testing.T) {
	bare := impl.Net{Routers: []string{"a", "b"}}
	p := proving{inputs: 1, e: variable(0), a: impl.Answer{Values: []bool{false}}, n: bare, m: bare, to: 1}
	other := copyOfProving(p)
	other.e.Kids, other.a.Steps = []impl.Ex{}, []impl.Step{}
	other.n.Links, other.n.Origins, other.n.Externals, other.n.Imports, other.n.Filters = []impl.Link{}, []int{}, []int{}, []impl.Import{}, []impl.Filter{}
	other.m = other.n
	if provingCalls(p) != provingCalls(other) {
		t.Error("empty lists and nil are answered otherwise")
	}
	for _, values := range [][]bool{nil, {}} {
		for _, steps := range [][]impl.Step{nil, {}} {
			checkAnswer(t, 0, constant(0), impl.Answer{Values: values, Steps: steps}, true, 0)
			checkAnswer(t, 0, constant(1), impl.Answer{Valid: true, Values: values, Steps: steps}, false, 0)
			checkAnswer(t, 1, variable(0), impl.Answer{Values: values, Steps: steps}, false, impl.ErrRange)
		}
		for _, clause := range [][]int{nil, {}} {
			checkAnswer(t, 1, constant(1), impl.Answer{Valid: true, Values: values, Steps: []impl.Step{{Clause: clause}}}, true, 0)
		}
	}
}
