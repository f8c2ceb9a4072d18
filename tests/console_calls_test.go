package tests

import (
	"fmt"
	"math/rand"
	"slices"
	"strings"
	"sync"
	"testing"

	"loop.example/g00159/impl"
)

// Tests of promise 1, of the console: arguments stay, nothing panics, nothing hangs on earlier calls.

// oddBytes has some bytes of a text changed, taken away or put in.
func oddBytes(r *rand.Rand, text string) string {
	bytes := []byte(text)
	for range 1 + r.Intn(4) {
		place := r.Intn(len(bytes) + 1)
		switch r.Intn(3) {
		case 0:
			bytes = slices.Insert(bytes, place, byte(r.Intn(256)))
		case 1:
			if place < len(bytes) {
				bytes = slices.Delete(bytes, place, place+1)
			}
		default:
			if place < len(bytes) {
				bytes[place] = " \n#-\tx0\x00"[r.Intn(8)]
			}
		}
	}
	return string(bytes)
}

func TestConsolesNeverPanic(t *testing.T) {
	pieces := []string{"router", "link", "origin", "external", "import", "filter", "verify", "show", "reach", "never", "way", "own", "via", "port", "fail", "a", "b", "a", "b", "0", "1", "-1", "16", "#", "\t", "\r", "\x00", "\xff", " ", " ", " ", " ", "\n", "\n", "router a\n", "router b\n", "link a b\n", "verify reach a\n", "show\n"}
	r := chance()
	said := 0
	for i := range 6000 {
		var text string
		if i%2 == 0 {
			for range r.Intn(30) {
				text += pieces[r.Intn(len(pieces))]
			}
		} else {
			text = oddBytes(r, "router a\nrouter b\nlink a b\norigin b\n"+strings.Join(someTalk(r, 3), "\n"))
		}
		want, wantCode := slowConsole(text)
		got, code := impl.Console(text)
		if code != wantCode || got != want {
			t.Fatalf("Console(%q) = %q, %d, not %q, %d", text, got, code, want, wantCode)
		}
		if got != "" {
			said++
		}
	}
	if said < 3000 {
		t.Errorf("something is said to %d texts: the test tells little", said)
	}
}

// TestAsksAndTextsNeverPanic has networks, lines and verdicts of any kind.
func TestAsksAndTextsNeverPanic(t *testing.T) {
	r := chance()
	for i := range 40000 {
		n := oddNet(r)
		if i%2 == 0 {
			n = someNet(r)
		}
		right := slowNetOK(n)
		line := oddBytes(r, someAsk(r, n.Routers, 10))
		p, k, code := impl.ReadAsk(n, line)
		checkCode(t, "ReadAsk", code)
		if (code == impl.ErrBad) == right || code != 0 && (p != impl.Property{} || k != 0) || code == 0 && (!impl.PropertyOK(n, p) || !between(k, 0, impl.MaxDown)) {
			t.Fatalf("ReadAsk(%v, %q) = %v, %d, %d", n, line, p, k, code)
		}
		v := impl.Verdict{Holds: r.Intn(3) == 0, States: oddNumber(r), Down: make([]bool, r.Intn(8)), Env: oddList(r), Vias: oddList(r), Port: oddNumber(r)}
		text, code := impl.VerdictText(n, v)
		checkCode(t, "VerdictText", code)
		if (code == impl.ErrBad) == right || (code == 0) != (text != "") || right && v.Holds && code != 0 {
			t.Fatalf("VerdictText(%v, %v) = %q, %d", n, v, text, code)
		}
	}
}

func TestConsolesLeaveTheirArguments(t *testing.T) {
	r := chance()
	for i := range 5000 {
		kept := someNet(r)
		if i%4 == 0 {
			kept = spoilt(r, kept)
		}
		keptVerdict := anyVerdict(r, kept)
		n, v := roomyNet(kept), keptVerdict
		v.Down, v.Env, v.Vias = roomyOf(v.Down), roomyOf(v.Env), roomyOf(v.Vias)
		impl.ReadAsk(n, someAsk(r, n.Routers, 10))
		impl.VerdictText(n, v)
		if !sameNet(n, kept) || !sameVerdict(v, keptVerdict) {
			t.Fatalf("a call of chapter 11 changes %v, %v to %v, %v", kept, keptVerdict, n, v)
		}
		if !isUntouchedNet(n) || !hasNothingBehind(v.Down) || !hasNothingBehind(v.Env) || !hasNothingBehind(v.Vias) {
			t.Fatal("a call of chapter 11 writes behind the end of an argument")
		}
	}
}

// hearing is what the calls of chapter 11 are given.
type hearing struct {
	n    impl.Net
	line string
	v    impl.Verdict
	text string
}

func someHearing(r *rand.Rand) hearing {
	h := hearing{n: someNet(r)}
	if r.Intn(5) == 0 {
		h.n = spoilt(r, h.n)
	}
	h.line, h.v, h.text = someAsk(r, h.n.Routers, 10), anyVerdict(r, h.n), strings.Join(someTalk(r, 5), "\n")
	return h
}

// hearingCalls writes down all that is answered.
func hearingCalls(h hearing) string {
	p, k, askCode := impl.ReadAsk(h.n, h.line)
	told, textCode := impl.VerdictText(h.n, h.v)
	said, code := impl.Console(h.text)
	return fmt.Sprintln(p, k, askCode) + fmt.Sprintln(told, textCode) + fmt.Sprintln(said, code)
}

func TestNothingIsKeptOfConsoles(t *testing.T) {
	r := chance()
	var list []hearing
	var answers []string
	for range 300 {
		h := someHearing(r)
		list, answers = append(list, h), append(answers, hearingCalls(h))
	}
	for _, i := range r.Perm(len(list)) {
		if got := hearingCalls(list[i]); got != answers[i] {
			t.Fatalf("%v was answered %q, then %q", list[i], answers[i], got)
		}
	}
	// A network that has been told is not there in the next call.
	for range 3 {
		checkConsole(t, "router a\norigin a\nshow", "router a\norigin a\n")
		checkConsole(t, "show\nverify reach a", "error name\n")
	}
}

func TestConsolesAtOnce(t *testing.T) {
	r := chance()
	var list []hearing
	var answers []string
	for range 60 {
		h := someHearing(r)
		list, answers = append(list, h), append(answers, hearingCalls(h))
	}
	var group sync.WaitGroup
	for worker := range 6 {
		group.Go(func() {
			for i := range list {
				place := (i*7 + worker*11) % len(list)
				if got := hearingCalls(list[place]); got != answers[place] {
					t.Errorf("at once, %v was answered %q, not %q", list[place], got, answers[place])
					return
				}
			}
		})
	}
	group.Wait()
}

func TestEmptyIsNilInConsoles(t *testing.T) {
	a := impl.Net{Routers: []string{"a"}}
	b := impl.Net{Routers: []string{"a"}, Links: []impl.Link{}, Origins: []int{}, Externals: []int{}, Imports: []impl.Import{}, Filters: []impl.Filter{}}
	for _, n := range []impl.Net{a, b} {
		checkAsk(t, n, "verify reach a", impl.Property{Kind: impl.PrReach, Port: -1}, 0)
		checkVerdictText(t, n, impl.Verdict{States: 1, Vias: []int{-3}}, "violated 1 port 0 down from via a>-\n")
		checkVerdictText(t, n, impl.Verdict{States: 1, Down: []bool{}, Env: []int{}, Vias: []int{-3}}, "violated 1 port 0 down from via a>-\n")
		checkVerdictTextFault(t, n, impl.Verdict{States: 1}, impl.ErrRange)
		checkVerdictTextFault(t, n, impl.Verdict{States: 1, Vias: []int{}}, impl.ErrRange)
	}
	for _, n := range []impl.Net{{}, {Routers: []string{}}} {
		checkAskFault(t, n, "verify reach a", impl.ErrBad)
		checkVerdictTextFault(t, n, holds(1), impl.ErrBad)
	}
}

// TestHardConsolesEnd asks what looks at most states, of a network with all that there may be.
func TestHardConsolesEnd(t *testing.T) {
	net := "router a\nrouter b\nrouter c\nrouter d\nlink a b\nlink a c\nlink a d\nlink b c\nlink b d\nlink c d\norigin a\norigin b\norigin c\norigin d\nexternal c\nexternal d\n"
	const asks = 8
	inTime(t, "the console", func() {
		checkConsole(t, net+strings.Repeat("verify reach a fail 2\n", asks), strings.Repeat("holds 198\n", asks))
	})
}
