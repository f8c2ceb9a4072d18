package tests

import (
	"fmt"
	"math"
	"math/rand"
	"regexp"
	"slices"
	"strconv"
	"strings"
	"testing"

	"loop.example/g00159/impl"
)

// Tests of chapter 11, for promises 11 and 12: the texts of verdicts.

func checkVerdictText(t *testing.T, n impl.Net, v impl.Verdict, want string) {
	t.Helper()
	if got, code := impl.VerdictText(n, v); code != 0 || got != want {
		t.Fatalf("VerdictText(%s, %s) = %q, %d, not %q", brief(n), brief(v), brief(got), code, brief(want))
	}
}

func checkVerdictTextFault(t *testing.T, n impl.Net, v impl.Verdict, want int) {
	t.Helper()
	if got, code := impl.VerdictText(n, v); code != want || got != "" {
		t.Fatalf("VerdictText(%s, %s) = %q, %d, not code %d", brief(n), brief(v), brief(got), code, want)
	}
}

func TestVerdictTexts(t *testing.T) {
	const pair = "router a\nrouter b\nlink b a\nexternal b\n"
	const three = "router x\nrouter _y9\nrouter Z\nlink x _y9\nlink Z _y9\nlink Z x\nexternal Z\nexternal x\n"
	for _, row := range []struct {
		net  string
		v    impl.Verdict
		text string
	}{
		{"router a", holds(0), "holds 0\n"},
		{"router a", holds(7), "holds 7\n"},
		// No link, no external: the words stand there all the same.
		{"router a", violated(1, "", nil, []int{-3}, 0), "violated 1 port 0 down from via a>-\n"},
		{"router a", violated(12, "", nil, []int{-2}, 15), "violated 12 port 15 down from via a>self\n"},
		{"router a", violated(1, "", nil, []int{0}, 0), "violated 1 port 0 down from via a>a\n"},
		{"router a\nexternal a", violated(2, "", []int{1}, []int{-1}, 3), "violated 2 port 3 down from a=1 via a>out\n"},
		{pair, violated(4, "0", []int{0}, []int{1, -1}, 2), "violated 4 port 2 down from b=0 via a>b b>out\n"},
		// A link is told as it stands, whichever is the lesser.
		{pair, violated(4, "1", []int{2}, []int{-3, -1}, 2), "violated 4 port 2 down b-a from b=2 via a>- b>out\n"},
		{three, violated(100, "000", []int{0, 2}, []int{1, 2, -2}, 9), "violated 100 port 9 down from x=0 Z=2 via x>_y9 _y9>Z Z>self\n"},
		{three, violated(100, "101", []int{1, 0}, []int{-1, 2, -3}, 10), "violated 100 port 10 down x-_y9 Z-x from x=1 Z=0 via x>out _y9>Z Z>-\n"},
		{three, violated(100, "111", []int{1, 1}, []int{2, 0, 1}, 10), "violated 100 port 10 down x-_y9 Z-_y9 Z-x from x=1 Z=1 via x>Z _y9>x Z>_y9\n"},
		// Numbers of which nothing is said may be any.
		{pair, violated(math.MaxInt, "1", []int{math.MinInt}, []int{-3, 0}, math.MaxInt), "violated 9223372036854775807 port 9223372036854775807 down b-a from b=-9223372036854775808 via a>- b>a\n"},
		{pair, violated(math.MinInt, "0", []int{math.MaxInt}, []int{-2, -2}, math.MinInt), "violated -9223372036854775808 port -9223372036854775808 down from b=9223372036854775807 via a>self b>self\n"},
		{pair, violated(-1, "0", []int{-1}, []int{-2, -2}, -1), "violated -1 port -1 down from b=-1 via a>self b>self\n"},
		{pair, violated(0, "0", []int{3}, []int{1, 0}, 16), "violated 0 port 16 down from b=3 via a>b b>a\n"},
		{pair, holds(math.MaxInt), "holds 9223372036854775807\n"},
		{pair, holds(math.MinInt), "holds -9223372036854775808\n"},
	} {
		checkVerdictText(t, netOf(t, row.net), row.v, row.text)
	}
	long := strings.Repeat("n", impl.MaxName)
	checkVerdictText(t, impl.Net{Routers: []string{long}}, violated(1, "", nil, []int{0}, 0), "violated 1 port 0 down from via "+long+">"+long+"\n")
	// Names like other words of the line.
	checkVerdictText(t, netOf(t, "router self\nrouter out\nrouter via\nlink self via\nexternal out"), violated(1, "1", []int{1}, []int{1, 0, -1}, 0), "violated 1 port 0 down self-via from out=1 via self>out out>self via>out\n")
}

// TestVerdictTextOfWhatHolds: what else such a verdict has is not looked at.
func TestVerdictTextOfWhatHolds(t *testing.T) {
	for _, n := range []impl.Net{netOf(t, "router a"), netOf(t, detourNet), wholeNet()} {
		for _, down := range []int{0, 1, 3, 6, 7, impl.MaxList + 1} {
			for _, list := range [][]int{nil, {-4}, {4, 4, 4, 4}, {math.MinInt, math.MaxInt}, repeated(9, impl.MaxList+1)} {
				v := impl.Verdict{Holds: true, States: 198, Down: make([]bool, down), Env: list, Vias: list, Port: 99}
				checkVerdictText(t, n, v, "holds 198\n")
				v.Holds = false
				checkVerdictTextFault(t, n, v, impl.ErrRange)
			}
		}
	}
}

func TestVerdictTextFaults(t *testing.T) {
	n := netOf(t, "router a\nrouter b\nrouter c\nlink a b\nlink b c\norigin a\nexternal b\nexternal c\nfilter a to b port 1 2\nfilter b to a port 1 2\n")
	right := violated(5, "01", []int{0, 2}, []int{-2, 0, -3}, 4)
	checkVerdictText(t, n, right, "violated 5 port 4 down b-c from b=0 c=2 via a>self b>a c>-\n")
	change := func(change func(v *impl.Verdict)) impl.Verdict {
		v := right
		v.Vias = slices.Clone(right.Vias)
		change(&v)
		return v
	}
	var wrong []impl.Verdict
	for _, length := range []int{0, 1, 3, 4, impl.MaxList, impl.MaxList + 1} {
		wrong = append(wrong, change(func(v *impl.Verdict) { v.Down = make([]bool, length) }), change(func(v *impl.Verdict) { v.Env = make([]int, length) }))
	}
	for _, length := range []int{0, 1, 2, 4, 5, impl.MaxList, impl.MaxList + 1} {
		wrong = append(wrong, change(func(v *impl.Verdict) { v.Vias = make([]int, length) }))
	}
	for router := range 3 {
		for _, via := range []int{-4, -5, 3, 4, 1 << 32, -1 << 32, math.MaxInt, math.MinInt, 1<<32 + 1} {
			wrong = append(wrong, change(func(v *impl.Verdict) { v.Vias[router] = via }))
		}
		for via := -3; via <= 2; via++ {
			v := change(func(v *impl.Verdict) { v.Vias[router] = via })
			checkVerdictText(t, n, v, slowVerdictText(n, v))
		}
	}
	for _, v := range wrong {
		checkVerdictTextFault(t, n, v, impl.ErrRange)
		v.Holds = true
		checkVerdictText(t, n, v, "holds 5\n")
	}
	for _, m := range wrongNets(pairNet(2, 3, 5, 9)) {
		for _, v := range append(wrong, right, holds(1), impl.Verdict{}, violated(1, "0", nil, []int{1, -2}, 0)) {
			checkVerdictTextFault(t, m, v, impl.ErrBad)
		}
	}
	checkVerdictTextFault(t, n, impl.Verdict{}, impl.ErrRange)
	checkVerdictText(t, n, impl.Verdict{Holds: true}, "holds 0\n")
}

// slowVerdictText needs a verdict that is right of the network.
func slowVerdictText(n impl.Net, v impl.Verdict) string {
	if v.Holds {
		return fmt.Sprintf("holds %d\n", v.States)
	}
	var down, from, via string
	for i, l := range n.Links {
		if v.Down[i] {
			down += fmt.Sprintf(" %s-%s", n.Routers[l.A], n.Routers[l.B])
		}
	}
	for i, router := range n.Externals {
		from += fmt.Sprintf(" %s=%d", n.Routers[router], v.Env[i])
	}
	words := append([]string{"-", "self", "out"}, n.Routers...)
	for i, name := range n.Routers {
		via += fmt.Sprintf(" %s>%s", name, words[v.Vias[i]+3])
	}
	return fmt.Sprintf("violated %d port %d down%s from%s via%s\n", v.States, v.Port, down, from, via)
}

var (
	slowHolds    = regexp.MustCompile(`^holds (\S+)\n$`)
	slowViolated = regexp.MustCompile(`^violated (\S+) port (\S+) down((?: \S+-\S+)*) from((?: \S+=\S+)*) via((?: \S+>\S+)*)\n$`)
)

// readVerdict has a verdict's fields again from its text; where names are like other words of it, that need not be so.
func readVerdict(t *testing.T, n impl.Net, text string) impl.Verdict {
	t.Helper()
	number := func(text string) int {
		number, err := strconv.Atoi(text)
		if err != nil {
			t.Fatal(err)
		}
		return number
	}
	if found := slowHolds.FindStringSubmatch(text); found != nil {
		return holds(number(found[1]))
	}
	found := slowViolated.FindStringSubmatch(text)
	if found == nil {
		t.Fatalf("%q is no verdict", text)
	}
	v := impl.Verdict{States: number(found[1]), Port: number(found[2]), Down: make([]bool, len(n.Links))}
	for _, pair := range strings.Fields(found[3]) {
		a, b, _ := strings.Cut(pair, "-")
		place := slices.IndexFunc(n.Links, func(l impl.Link) bool { return n.Routers[l.A] == a && n.Routers[l.B] == b })
		if place < 0 || v.Down[place] || slices.Contains(v.Down[place:], true) {
			t.Fatalf("%q: links of %v", text, n.Links)
		}
		v.Down[place] = true
	}
	for i, pair := range strings.Fields(found[4]) {
		name, announced, _ := strings.Cut(pair, "=")
		if i >= len(n.Externals) || n.Routers[n.Externals[i]] != name {
			t.Fatalf("%q: externals of %v", text, n)
		}
		v.Env = append(v.Env, number(announced))
	}
	for i, pair := range strings.Fields(found[5]) {
		name, via, _ := strings.Cut(pair, ">")
		if i >= len(n.Routers) || n.Routers[i] != name {
			t.Fatalf("%q: routers of %v", text, n)
		}
		v.Vias = append(v.Vias, slices.Index(append([]string{"-", "self", "out"}, n.Routers...), via)-3)
	}
	return v
}

// TestVerdictsAreTold holds the text of what Verify answers against its fields.
func TestVerdictsAreTold(t *testing.T) {
	r := chance()
	var c tally
	for range 4000 {
		n := anyNet(r)
		v, code := impl.Verify(n, someProperty(r, n), r.Intn(3))
		if code != 0 {
			t.Fatal(code)
		}
		text, code := impl.VerdictText(n, v)
		if code != 0 || text != slowVerdictText(n, v) {
			t.Fatalf("VerdictText(%v, %v) = %q, %d", n, v, text, code)
		}
		if got := readVerdict(t, n, text); !sameVerdict(got, v) {
			t.Fatalf("%q tells %v, not %v", text, got, v)
		}
		c.add(v)
	}
	if c.held < 500 || c.violated < 1200 || c.late < 20 || c.down < 100 || c.announced < 50 || c.port < 300 {
		t.Errorf("%+v: the test tells little", c)
	}
}

// anyVerdict is mostly right of a network, with any numbers.
func anyVerdict(r *rand.Rand, n impl.Net) impl.Verdict {
	count := func(right int) int {
		if r.Intn(20) == 0 {
			return max(0, right-1+2*r.Intn(2))
		}
		return right
	}
	v := impl.Verdict{Holds: r.Intn(8) == 0, States: oddNumber(r), Port: oddNumber(r)}
	for range count(len(n.Links)) {
		v.Down = append(v.Down, r.Intn(3) == 0)
	}
	for range count(len(n.Externals)) {
		v.Env = append(v.Env, oddNumber(r))
	}
	for range count(len(n.Routers)) {
		v.Vias = append(v.Vias, r.Intn(len(n.Routers)+3)-3)
	}
	if len(v.Vias) > 0 && r.Intn(20) == 0 {
		v.Vias[r.Intn(len(v.Vias))] = oddNumber(r)
	}
	return v
}

func TestAnyVerdictText(t *testing.T) {
	r := chance()
	codes := map[int]int{}
	for range 40000 {
		n := someNet(r)
		if r.Intn(6) == 0 {
			n = spoilt(r, n)
		}
		v := anyVerdict(r, n)
		code := 0
		if !slowNetOK(n) {
			code = impl.ErrBad
		} else if !v.Holds && (len(v.Down) != len(n.Links) || len(v.Env) != len(n.Externals) || len(v.Vias) != len(n.Routers) || slices.Min(v.Vias) < -3 || slices.Max(v.Vias) >= len(n.Routers)) {
			code = impl.ErrRange
		}
		codes[code]++
		if code != 0 {
			checkVerdictTextFault(t, n, v, code)
			continue
		}
		checkVerdictText(t, n, v, slowVerdictText(n, v))
	}
	if codes[0] < 10000 || codes[impl.ErrBad] < 1000 || codes[impl.ErrRange] < 1000 {
		t.Errorf("codes %v: the test tells little", codes)
	}
}
