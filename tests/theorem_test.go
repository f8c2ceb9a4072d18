package tests

import (
	"slices"
	"strings"
	"testing"

	"loop.example/g00159/impl"
)

// Tests of promise 12, of all layers together: from a text to a verdict, what is violated can be had again, and what is proved has a proof that checks.

// checkHadAgain goes by the exported functions from what a verdict tells to the packet of which the property is not so.
func checkHadAgain(t *testing.T, n impl.Net, p impl.Property, k int, v impl.Verdict) impl.Walk {
	t.Helper()
	checkReplay(t, n, p, k, v, true)
	routes, code := impl.RoutesOf(n, v.Env, v.Down, v.Vias)
	if code != 0 {
		t.Fatalf("%v of %v cannot be had: code %d", v, n, code)
	}
	if stable, code := impl.IsStable(n, v.Env, v.Down, routes); code != 0 || !stable {
		t.Fatalf("%v of %v is not stable, code %d", v, n, code)
	}
	w, code := impl.Forward(n, v.Down, routes, p.From, v.Port)
	if code != 0 {
		t.Fatalf("%v of %v: Forward tells code %d", v, n, code)
	}
	if so, code := impl.Satisfied(n, p, w); code != 0 || so {
		t.Fatalf("%v of %v is so of %v, code %d", p, n, w, code)
	}
	return w
}

// checkHoldsInAll goes through all states by the exported functions.
func checkHoldsInAll(t *testing.T, n impl.Net, p impl.Property, k, states int) {
	t.Helper()
	count := 0
	for _, down := range slowDownLists(len(n.Links), k) {
		for _, env := range slowAnnouncements(len(n.Externals)) {
			list, _ := impl.StableStates(n, env, down)
			for _, routes := range list {
				count++
				for port := range 16 {
					if p.Port != -1 && p.Port != port {
						continue
					}
					w, code := impl.Forward(n, down, routes, p.From, port)
					so, soCode := impl.Satisfied(n, p, w)
					if code != 0 || soCode != 0 || !so {
						t.Fatalf("%v of %v holds, and is not so of %v (codes %d, %d)", p, n, w, code, soCode)
					}
				}
			}
		}
	}
	if count != states {
		t.Fatalf("%v of %v holds in %d states, not in %d", p, n, states, count)
	}
}

// checkTold is the way from a question, and what a console says to it, back to the network.
func checkTold(t *testing.T, n impl.Net, ask, said string) impl.Verdict {
	t.Helper()
	p, k, code := impl.ReadAsk(n, ask)
	if code != 0 {
		t.Fatalf("ReadAsk(%v, %q): code %d", n, ask, code)
	}
	v, code := impl.Verify(n, p, k)
	if text, textCode := impl.VerdictText(n, v); code != 0 || textCode != 0 || text != said {
		t.Fatalf("to %q of %v is said %q, not %q (codes %d, %d)", ask, n, said, text, code, textCode)
	}
	told := readVerdict(t, n, said)
	if !sameVerdict(told, v) {
		t.Fatalf("%q tells %v, not %v", said, told, v)
	}
	if v.Holds {
		checkHoldsInAll(t, n, p, k, v.States)
		return v
	}
	w := checkHadAgain(t, n, p, k, told)
	if w.Outcome == impl.OcFilter {
		checkStopped(t, n, w.Path[len(w.Path)-1], v)
	}
	return v
}

// checkStopped: a port at which a filter ends a packet is one of which the filters' expression is true, so that it is not proved to be false.
func checkStopped(t *testing.T, n impl.Net, at int, v impl.Verdict) {
	t.Helper()
	e, code := impl.FilterEx(n, at, v.Vias[at])
	if code != 0 {
		return
	}
	checkValue(t, e, valuesOf(v.Port, 4), true)
	a, code := impl.Prove(4, not(e))
	if code != 0 || a.Valid {
		t.Fatalf("%s is proved to be false: %s, code %d", brief(e), brief(a), code)
	}
	checkProved(t, 4, not(e), a)
}

// checkFiltersProved proves the filters of each hop to be themselves, and looks at the proof by the layers below.
func checkFiltersProved(t *testing.T, n, m impl.Net) int {
	t.Helper()
	proofs := 0
	for at := range n.Routers {
		for to := range n.Routers {
			d, code := impl.FilterEx(n, at, to)
			e, other := impl.FilterEx(m, at, to)
			if code != 0 || other != 0 {
				continue
			}
			for _, claim := range []impl.Ex{not(xor(d, d)), not(xor(d, e)), or(d, not(d)), or(not(e), d)} {
				a, code := impl.Prove(4, claim)
				if code != 0 {
					continue
				}
				if !a.Valid {
					t.Fatalf("Prove(4, %s) = %s", brief(claim), brief(a))
				}
				checkProved(t, 4, claim, a)
				aig, literals, _ := impl.BuildAig(4, []impl.Ex{claim})
				f, code := impl.Tseitin(aig, literals[0]^1)
				if _, modelCode := impl.LeastModel(f); code != 0 || modelCode != impl.ErrNone {
					t.Fatalf("the opposite of %s: codes %d, %d", brief(claim), code, modelCode)
				}
				text, _ := impl.ProofText(a.Steps)
				steps, _, _ := impl.ReadProof(text)
				if end, code := impl.CheckProof(f, steps); code != 0 || end != len(steps)-1 {
					t.Fatalf("the proof %q of %s: %d, %d", text, brief(claim), end, code)
				}
				if len(a.Steps) > 1 {
					proofs++
				}
			}
		}
	}
	return proofs
}

func TestTheorem(t *testing.T) {
	r := chance()
	var c tally
	proofs := 0
	for range 800 {
		n := anyNet(r)
		text := slowNetText(n)
		var asks []string
		for range 3 {
			asks = append(asks, slowAskText(n, someProperty(r, n), r.Intn(3)))
		}
		script := text + strings.Join(asks, "\n") + "\nshow\n"
		said, code := impl.Console(script)
		lines := slowLines(said)
		if code != 0 || len(lines) < len(asks) {
			t.Fatalf("Console(%q) = %q, %d", script, said, code)
		}
		// The network is had from what the console shows.
		n = netOf(t, strings.Join(lines[len(asks):], "\n"))
		if again, _ := impl.NetText(n); again != text {
			t.Fatalf("%q is shown as %q", text, again)
		}
		for i, ask := range asks {
			c.add(checkTold(t, n, ask, lines[i]+"\n"))
		}
		proofs += checkFiltersProved(t, n, netOf(t, slowNetText(alike(r, n))))
	}
	if c.held < 200 || c.violated < 500 || c.late < 5 || c.down < 30 || c.announced < 10 || c.port < 100 || proofs < 80 {
		t.Errorf("%+v, %d proofs: the test tells little", c, proofs)
	}
}

// TestTheoremByHand has one network from its text to each end.
func TestTheoremByHand(t *testing.T) {
	const ask = "verify reach a port 3 fail 1"
	said, code := impl.Console(detourNet + "verify reach a\n" + ask + "\nverify reach a port 9 fail 1\nverify reach a port 9 fail 2\nverify own a port 9\n")
	want := []string{
		"violated 1 port 3 down from a=0 via a>b b>c c>self",
		"violated 1 port 3 down from a=0 via a>b b>c c>self",
		"holds 12",
		"violated 13 port 9 down b-c a-c from a=0 via a>- b>- c>self",
		"violated 2 port 9 down from a=1 via a>out b>c c>self",
	}
	if lines := slowLines(said); code != 0 || !slices.Equal(lines, want) {
		t.Fatalf("%q, code %d", said, code)
	}
	n := netOf(t, detourNet)
	p, k, _ := impl.ReadAsk(n, ask)
	v, _ := impl.Verify(n, p, k)
	w := checkHadAgain(t, n, p, k, v)
	if !sameWalk(w, impl.Walk{Outcome: impl.OcFilter, Path: []int{0}}) {
		t.Error(w)
	}
	// What is told of another port, state or network is not had again.
	other := v
	other.Port = 5
	if yes, code := impl.Replay(n, impl.Property{Kind: impl.PrReach, Port: -1}, k, other); yes || code != 0 {
		t.Error("another port", yes, code)
	}
	other = v
	other.Vias = []int{2, 2, -2}
	checkReplay(t, n, p, k, other, false)
	checkReplay(t, netOf(t, strings.Replace(detourNet, "port 3 4", "port 4 4", 1)), p, k, v, false)

	// The filter is that of the ports 3 and 4, by one line or by two.
	e, _ := impl.FilterEx(n, 0, 1)
	m := netOf(t, strings.Replace(detourNet, "filter a to b port 3 4", "filter a to b port 4 4\nfilter a to b port 3 3", 1))
	both, _ := impl.FilterEx(m, 0, 1)
	claim := not(xor(e, both))
	a, code := impl.Prove(4, claim)
	if code != 0 || !a.Valid || len(a.Steps) < 2 {
		t.Fatalf("Prove(4, %s) = %s, %d", brief(claim), brief(a), code)
	}
	checkProved(t, 4, claim, a)
	checkAnswer(t, 4, claim, proved(step()), false, 0)
	checkApartOf(t, n, 0, 1, m, 0, 1, 0, impl.ErrNone)
	// The proof of one claim is none of another that is not so.
	wrong := not(xor(e, and(both, variable(0))))
	if yes, _ := impl.CheckAnswer(4, wrong, a); yes {
		t.Errorf("%s is proved by %s", brief(wrong), brief(a))
	}
	refuted, code := impl.Prove(4, wrong)
	if code != 0 || refuted.Valid || portOf(refuted.Values) != 4 {
		t.Fatalf("Prove(4, %s) = %s, %d", brief(wrong), brief(refuted), code)
	}
	checkProved(t, 4, wrong, refuted)
}

// TestVerdictsOfTheNetworkSoFar: a question in the middle is of the lines ahead of it, by whatever comes behind.
func TestVerdictsOfTheNetworkSoFar(t *testing.T) {
	r := chance()
	asked := 0
	for range 150 {
		lines := slowLines(slowNetText(filteredNet(r)))
		var script []string
		var texts []string
		for i, line := range lines {
			script = append(script, line)
			n, code, _ := impl.ReadNet(strings.Join(lines[:i+1], "\n"))
			if code != 0 {
				t.Fatal(code)
			}
			ask := slowAskText(n, someProperty(r, n), r.Intn(2))
			if len(script)+2 > impl.MaxLines {
				break
			}
			script, texts = append(script, ask), append(texts, strings.Join(lines[:i+1], "\n"))
		}
		said := slowLines(saidTo(t, script))
		if len(said) != len(texts) {
			t.Fatalf("to %q is said %q", script, said)
		}
		for i, text := range texts {
			checkTold(t, netOf(t, text), script[2*i+1], said[i]+"\n")
			asked++
		}
	}
	if asked < 1000 {
		t.Errorf("%d questions: the test tells little", asked)
	}
}
