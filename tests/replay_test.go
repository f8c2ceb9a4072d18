package tests

import (
	"math"
	"math/rand"
	"slices"
	"testing"

	"loop.example/g00159/impl"
)

// Tests of promise 9: which verdicts can be had again.

func TestReplay(t *testing.T) {
	n := netOf(t, detourNet)
	reach := impl.Property{Kind: impl.PrReach, From: 0, Port: -1}
	five := impl.Property{Kind: impl.PrReach, From: 0, Port: 5}
	own := impl.Property{Kind: impl.PrOwn, From: 0, Port: -1}
	for _, row := range []struct {
		p    impl.Property
		k    int
		v    impl.Verdict
		want bool
	}{
		{reach, 0, violated(1, "000", []int{0}, []int{1, 2, -2}, 3), true},
		{reach, 0, violated(1, "000", []int{0}, []int{1, 2, -2}, 4), true},
		{reach, 2, violated(1, "000", []int{0}, []int{1, 2, -2}, 4), true},
		{reach, 0, violated(1, "000", []int{0}, []int{1, 2, -2}, 2), false},
		{reach, 0, violated(1, "000", []int{0}, []int{1, 2, -2}, 5), false},
		// It can be had, and is not stable.
		{reach, 0, violated(1, "000", []int{0}, []int{2, 2, -2}, 3), false},
		{reach, 0, violated(1, "000", []int{0}, []int{-3, -3, -3}, 3), false},
		{reach, 0, violated(1, "000", []int{1}, []int{1, 2, -2}, 3), false},
		{reach, 0, violated(1, "000", []int{0}, []int{-3, 2, -2}, 3), false},
		// It cannot be had.
		{reach, 0, violated(1, "000", []int{0}, []int{1, 0, -2}, 3), false},
		{reach, 0, violated(1, "000", []int{0}, []int{0, 2, -2}, 3), false},
		{reach, 0, violated(1, "000", []int{0}, []int{-1, 2, -2}, 3), false},
		{reach, 0, violated(1, "000", []int{0}, []int{1, -2, -2}, 3), false},
		{reach, 1, violated(1, "100", []int{0}, []int{1, 2, -2}, 3), false},
		// As many links as k, and one more.
		{five, 2, violated(13, "011", []int{0}, []int{-3, -3, -2}, 5), true},
		{five, 1, violated(13, "011", []int{0}, []int{-3, -3, -2}, 5), false},
		{five, 0, violated(13, "011", []int{0}, []int{-3, -3, -2}, 5), false},
		{five, 2, violated(13, "111", []int{0}, []int{-3, -3, -2}, 5), false},
		{five, 2, violated(13, "101", []int{0}, []int{-3, 2, -2}, 5), true},
		{five, 2, violated(13, "011", []int{2}, []int{-1, 0, -2}, 5), false},
		{own, 2, violated(13, "011", []int{2}, []int{-1, 0, -2}, 5), true},
		{own, 0, violated(13, "000", []int{1}, []int{-1, 2, -2}, 0), true},
		{own, 0, violated(13, "000", []int{2}, []int{-1, 2, -2}, 15), true},
		{impl.Property{Kind: impl.PrNever, From: 0, Port: 5}, 0, violated(1, "000", []int{0}, []int{1, 2, -2}, 5), true},
		{impl.Property{Kind: impl.PrNever, From: 0, Port: 4}, 0, violated(1, "000", []int{0}, []int{1, 2, -2}, 4), false},
		{impl.Property{Kind: impl.PrWay, From: 0, Port: 5, Way: 1}, 0, violated(1, "000", []int{0}, []int{1, 2, -2}, 5), false},
		{impl.Property{Kind: impl.PrWay, From: 0, Port: 5, Way: 1}, 0, violated(1, "000", []int{1}, []int{-1, 2, -2}, 5), true},
	} {
		// How many states have been looked at is no matter.
		for _, states := range []int{row.v.States, 0, -1, math.MaxInt, math.MinInt} {
			row.v.States = states
			checkReplay(t, n, row.p, row.k, row.v, row.want)
		}
	}
}

// TestReplayOfLaterStates: a verdict need not be the first.
func TestReplayOfLaterStates(t *testing.T) {
	n := netOf(t, eitherNet+"filter c to b port 9 9\nfilter c to a port 2 2\n")
	reach := impl.Property{Kind: impl.PrReach, From: 2, Port: -1}
	for port := range 16 {
		checkReplay(t, n, reach, 0, violated(1, "000", nil, []int{-2, 0, 1}, port), port == 9)
		checkReplay(t, n, reach, 0, violated(1, "000", nil, []int{-2, 2, 0}, port), port == 2)
		checkReplay(t, n, reach, 0, violated(1, "000", nil, []int{-2, 0, 0}, port), false)
		checkReplay(t, n, reach, 0, violated(1, "000", nil, []int{-2, 2, 1}, port), false)
	}
	alone := netOf(t, "router a\nexternal a\n")
	for env := range 3 {
		for via := -3; via <= 0; via++ {
			checkReplay(t, alone, impl.Property{Kind: impl.PrReach, Port: -1}, 0, violated(1, "", []int{env}, []int{via}, 7), env == 0 && via == -3)
			checkReplay(t, alone, impl.Property{Kind: impl.PrOwn, Port: 7}, 2, violated(1, "", []int{env}, []int{via}, 7), env == 0 && via == -3 || env > 0 && via == -1)
		}
	}
}

// slowReplay needs what is right.
func slowReplay(n impl.Net, p impl.Property, k int, v impl.Verdict) bool {
	for _, down := range v.Down {
		if down {
			k--
		}
	}
	routes := slowRoutesOf(n, v.Env, v.Down, v.Vias)
	return k >= 0 && routes != nil && slowStable(n, v.Env, v.Down, routes) && !slowSatisfied(p, slowWalk(n, routes, v.Port, []int{p.From}))
}

// someVerdict is right of a property, and mostly of a stable state.
func someVerdict(r *rand.Rand, n impl.Net, p impl.Property) impl.Verdict {
	v := impl.Verdict{States: oddNumber(r), Down: fewDown(r, n), Env: someEnv(r, n), Port: p.Port}
	if p.Port < 0 {
		v.Port = r.Intn(16)
	}
	states, _ := impl.StableStates(n, v.Env, v.Down)
	if len(states) > 0 && r.Intn(5) > 0 {
		v.Vias = viasOf(states[r.Intn(len(states))])
	} else {
		for range n.Routers {
			v.Vias = append(v.Vias, r.Intn(len(n.Routers)+3)-3)
		}
	}
	if r.Intn(4) == 0 {
		v.Vias[r.Intn(len(v.Vias))] = r.Intn(len(n.Routers)+3) - 3
	}
	return v
}

func TestReplayWordByWord(t *testing.T) {
	r := chance()
	counts := map[bool]int{}
	for range 20000 {
		n := anyNet(r)
		p, k := someProperty(r, n), r.Intn(3)
		v := someVerdict(r, n, p)
		want := slowReplay(n, p, k, v)
		checkReplay(t, n, p, k, v, want)
		counts[want]++
		for i := range v.Down {
			w := v
			w.Down = slices.Clone(v.Down)
			w.Down[i] = !w.Down[i]
			checkReplay(t, n, p, k, w, slowReplay(n, p, k, w))
		}
	}
	if counts[true] < 3000 || counts[false] < 3000 {
		t.Errorf("had again or not: %v: the test tells little", counts)
	}
}
