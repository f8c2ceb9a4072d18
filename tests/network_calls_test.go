package tests

import (
	"fmt"
	"math/rand"
	"slices"
	"strings"
	"testing"

	"loop.example/g00159/impl"
)

// Tests of promise 1, of networks: arguments stay, nothing panics, answers are new memory, nothing hangs on earlier calls.

func oddNumber(r *rand.Rand) int {
	if r.Intn(3) > 0 {
		return r.Intn(5)
	}
	return oddNumbers[r.Intn(len(oddNumbers))]
}

// oddNet is mostly wrong, with numbers of any size and lists of any length.
func oddNet(r *rand.Rand) impl.Net {
	var n impl.Net
	for range r.Intn(6) {
		n.Routers = append(n.Routers, []string{"a", "b", "c", "d", "e", "", "9", "é"}[r.Intn(8)])
	}
	for range r.Intn(8) {
		n.Links = append(n.Links, impl.Link{A: oddNumber(r), B: oddNumber(r), Cost: oddNumber(r)})
	}
	for range r.Intn(4) {
		n.Origins, n.Externals = append(n.Origins, oddNumber(r)), append(n.Externals, oddNumber(r))
	}
	for range r.Intn(14) {
		n.Imports = append(n.Imports, impl.Import{At: oddNumber(r), From: oddNumber(r), When: oddNumber(r), Do: oddNumber(r), N: oddNumber(r)})
	}
	for range r.Intn(8) {
		n.Filters = append(n.Filters, impl.Filter{At: oddNumber(r), To: oddNumber(r), Low: oddNumber(r), High: oddNumber(r)})
	}
	return n
}

func TestNetsNeverPanic(t *testing.T) {
	r := chance()
	for i := range 60000 {
		n := oddNet(r)
		if i%3 == 0 {
			n = spoilt(r, someNet(r))
		}
		right := slowNetOK(n)
		checkNet(t, "any network", n, right)
		router, down := oddNumber(r), make([]bool, r.Intn(8))
		list, code := impl.Neighbours(n, router, down)
		want := 0
		if !right {
			want = impl.ErrBad
		} else if router < 0 || router >= len(n.Routers) || len(down) != len(n.Links) {
			want = impl.ErrRange
		}
		if code != want || code != 0 && len(list) != 0 {
			t.Fatalf("Neighbours(%v, %d, %v) = %v, %d, not code %d", n, router, down, list, code, want)
		}
		if t.Failed() {
			return
		}
	}
}

// TestReadNetNeverPanics reads texts of pieces, and right texts with some bytes changed.
func TestReadNetNeverPanics(t *testing.T) {
	pieces := []string{"router", "link", "origin", "external", "import", "filter", "cost", "from", "to", "port", "if", "mark", "plain", "deny", "pref", "clear", "a", "b", "a", "b", "1", "-1", "#", "\t", "\r", "\x00", "\xff", " ", " ", " ", "\n", "\n", "router a\n", "router b\n", "link a b\n"}
	r := chance()
	read := 0
	for i := range 60000 {
		var text string
		if i%2 == 0 {
			for range r.Intn(20) {
				text += pieces[r.Intn(len(pieces))]
			}
		} else {
			bytes := []byte(slowNetText(someNet(r)))
			for range r.Intn(3) {
				bytes[r.Intn(len(bytes))] = byte(r.Intn(256))
			}
			text = string(bytes)
		}
		n, code, line := impl.ReadNet(text)
		want, wantCode, wantLine := slowReadNet(text)
		if code != wantCode || line != wantLine || !sameNet(n, want) {
			t.Fatalf("ReadNet(%q) = %v, %d, %d, not %v, %d, %d", text, n, code, line, want, wantCode, wantLine)
		}
		if code == 0 {
			read++
		}
	}
	if read < 5000 {
		t.Errorf("only %d texts were read: the test tells little", read)
	}
}

// roomyOf gives any list room behind its end, with nothing in it.
func roomyOf[T any](list []T) []T {
	return append(make([]T, 0, len(list)+3), list...)
}

func hasNothingBehind[T comparable](list []T) bool {
	var nothing T
	return !slices.ContainsFunc(list[len(list):cap(list)], func(one T) bool { return one != nothing })
}

func TestNetsLeaveTheirArguments(t *testing.T) {
	r := chance()
	for range 10000 {
		kept := someNet(r)
		if r.Intn(3) == 0 {
			kept = spoilt(r, kept)
		}
		n := impl.Net{
			Routers: roomyOf(kept.Routers), Links: roomyOf(kept.Links), Origins: roomyOf(kept.Origins),
			Externals: roomyOf(kept.Externals), Imports: roomyOf(kept.Imports), Filters: roomyOf(kept.Filters),
		}
		flags := valuesOf(r.Intn(64), len(n.Links))
		down := roomyOf(flags)
		impl.NetOK(n)
		impl.NetText(n)
		for router := -1; router <= len(n.Routers); router++ {
			impl.Neighbours(n, router, down)
		}
		if !sameNet(n, kept) || !slices.Equal(down, flags) {
			t.Fatalf("a call of chapter 7 changes %v, %v to %v, %v", kept, flags, n, down)
		}
		if !hasNothingBehind(n.Routers) || !hasNothingBehind(n.Links) || !hasNothingBehind(n.Origins) || !hasNothingBehind(n.Externals) || !hasNothingBehind(n.Imports) || !hasNothingBehind(n.Filters) || !hasNothingBehind(down) {
			t.Fatal("a call of chapter 7 writes behind the end of an argument")
		}
	}
}

func spoilAll[T any](list []T, with T) {
	all := list[:cap(list)]
	for i := range all {
		all[i] = with
	}
}

// TestReadNetsAreNewMemory writes to one list after the other of an answer, and looks at those behind.
func TestReadNetsAreNewMemory(t *testing.T) {
	r := chance()
	for range 3000 {
		want := someNet(r)
		text := slowNetText(want)
		n, _, _ := impl.ReadNet(text)
		spoilAll(n.Routers, "spoilt")
		spoilAll(n.Origins, mark)
		if !sameList(n.Externals, want.Externals) {
			t.Fatal("origins and externals share memory")
		}
		spoilAll(n.Externals, mark)
		if len(n.Origins) > 0 && n.Origins[0] != mark {
			t.Fatal("externals and origins share memory")
		}
		spoilAll(n.Links, impl.Link{A: mark})
		spoilAll(n.Imports, impl.Import{At: mark})
		spoilAll(n.Filters, impl.Filter{At: mark})
		checkReadNet(t, text, want)
	}
}

func TestNeighboursAreNewMemory(t *testing.T) {
	r := chance()
	for range 3000 {
		n := someNet(r)
		kept, down := copyOfNet(n), make([]bool, len(n.Links))
		list, _ := impl.Neighbours(n, 0, down)
		want := slices.Clone(list)
		overwrite(list)
		if !sameNet(n, kept) {
			t.Fatal("the answer of Neighbours shares memory with its argument")
		}
		checkNeighbours(t, n, 0, down, want)
	}
}

// netCalls writes down all that a network and a text are answered.
func netCalls(n impl.Net, text string) string {
	var b strings.Builder
	told, code := impl.NetText(n)
	fmt.Fprintln(&b, impl.NetOK(n), told, code)
	for router := range 5 {
		list, code := impl.Neighbours(n, router, make([]bool, len(n.Links)))
		fmt.Fprintln(&b, list, code)
	}
	read, code, line := impl.ReadNet(text)
	fmt.Fprintln(&b, read, code, line)
	read, code, line = impl.ReadNet(told + text)
	fmt.Fprintln(&b, read, code, line)
	return b.String()
}

func TestNothingIsKeptOfNets(t *testing.T) {
	r := chance()
	var nets []impl.Net
	var texts, answers []string
	for range 400 {
		n := someNet(r)
		if r.Intn(3) == 0 {
			n = spoilt(r, n)
		}
		text := baseText + someLine(r, 8) + "\n" + someLine(r, 8)
		nets, texts, answers = append(nets, n), append(texts, text), append(answers, netCalls(n, text))
	}
	for _, i := range r.Perm(len(nets)) {
		if got := netCalls(nets[i], texts[i]); got != answers[i] {
			t.Fatalf("%v, %q were answered %q, then %q", nets[i], texts[i], answers[i], got)
		}
	}
}

func TestEmptyIsNilInNets(t *testing.T) {
	a := impl.Net{Routers: []string{"a", "b"}}
	b := impl.Net{Routers: []string{"a", "b"}, Links: []impl.Link{}, Origins: []int{}, Externals: []int{}, Imports: []impl.Import{}, Filters: []impl.Filter{}}
	if netCalls(a, "") != netCalls(b, "") {
		t.Error("empty lists and nil are answered otherwise")
	}
	if netCalls(impl.Net{}, "x") != netCalls(impl.Net{Routers: []string{}}, "x") {
		t.Error("no routers and nil are answered otherwise")
	}
	checkNeighbours(t, a, 0, nil, nil)
	checkNeighbours(t, b, 0, []bool{}, nil)
}

// TestListsWithinNets: MaxList does not bound them, the chapter alone does.
func TestListsWithinNets(t *testing.T) {
	long := impl.MaxList + 1
	for _, n := range []impl.Net{
		{Routers: make([]string, long)}, {Routers: []string{"a"}, Links: make([]impl.Link, long)}, {Routers: []string{"a"}, Origins: make([]int, long)},
		{Routers: []string{"a"}, Externals: make([]int, long)}, {Routers: []string{"a"}, Imports: make([]impl.Import, long)}, {Routers: []string{"a"}, Filters: make([]impl.Filter, long)},
		{Routers: []string{strings.Repeat("a", impl.MaxText+1)}},
	} {
		checkNet(t, "a long list within a network", n, false)
	}
}
