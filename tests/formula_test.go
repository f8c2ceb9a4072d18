package tests

import (
	"math"
	"strconv"
	"strings"
	"testing"

	"loop.example/g00159/impl"
)

// Tests of promise 2: a formula's text, its order, what clauses resolve to.

func TestCnfOK(t *testing.T) {
	for _, f := range []impl.Cnf{
		{},
		{Vars: impl.MaxVars},
		{Vars: 0, Clauses: [][]int{{}, nil}},
		{Vars: 1, Clauses: [][]int{{1, -1, 1}, {1}, {1}}},
		{Vars: impl.MaxVars, Clauses: [][]int{{impl.MaxVars, -impl.MaxVars}}},
		{Vars: 1, Clauses: [][]int{repeated(-1, impl.MaxWidth)}},
		{Vars: 1, Clauses: repeatedClause([]int{1}, impl.MaxClauses)},
	} {
		if !impl.CnfOK(f) {
			t.Errorf("CnfOK(%v) is false", f)
		}
	}
}

// wrongFormulas has one fault each.
func wrongFormulas() []impl.Cnf {
	return []impl.Cnf{
		{Vars: -1},
		{Vars: impl.MaxVars + 1},
		{Vars: math.MinInt, Clauses: [][]int{{1}}},
		{Vars: math.MaxInt, Clauses: [][]int{{1}}},
		{Vars: 0, Clauses: [][]int{{1}}},
		{Vars: 3, Clauses: [][]int{{1}, {0}}},
		{Vars: 3, Clauses: [][]int{{1}, {2, 4}}},
		{Vars: 3, Clauses: [][]int{{1}, {2, -4}}},
		{Vars: 3, Clauses: [][]int{{math.MinInt}}},
		{Vars: 3, Clauses: [][]int{{math.MaxInt}}},
		{Vars: impl.MaxVars, Clauses: [][]int{{impl.MaxVars + 1}}},
		{Vars: impl.MaxVars, Clauses: [][]int{{-impl.MaxVars - 1}}},
		{Vars: 1, Clauses: [][]int{repeated(-1, impl.MaxWidth+1)}},
		{Vars: 1, Clauses: repeatedClause([]int{1}, impl.MaxClauses+1)},
		{Vars: 1, Clauses: repeatedClause(nil, impl.MaxClauses+1)},
	}
}

func TestWrongFormulas(t *testing.T) {
	for _, f := range wrongFormulas() {
		if impl.CnfOK(f) {
			t.Errorf("CnfOK(%v) is true", f)
		}
		for _, values := range [][]bool{nil, {true}, make([]bool, 3), make([]bool, 41)} {
			if yes, code := impl.EvalCnf(f, values); yes || code != impl.ErrBad {
				t.Errorf("EvalCnf(%v) = %v, %d", f, yes, code)
			}
		}
		if text, code := impl.DimacsText(f); text != "" || code != impl.ErrBad {
			t.Errorf("DimacsText(%v) = %q, %d", f, text, code)
		}
		if g, code := impl.NormalCnf(f); !isZeroCnf(g) || code != impl.ErrBad {
			t.Errorf("NormalCnf(%v) = %v, %d", f, g, code)
		}
	}
}

func TestEvalCnf(t *testing.T) {
	two := impl.Cnf{Vars: 2, Clauses: [][]int{{1, 2}, {-1, -2}}}
	for _, c := range []struct {
		f      impl.Cnf
		values []bool
		yes    bool
		code   int
	}{
		{impl.Cnf{}, nil, true, 0},
		{impl.Cnf{Clauses: [][]int{{}}}, nil, false, 0},
		{impl.Cnf{Vars: 2}, []bool{true, false}, true, 0},
		{two, []bool{false, false}, false, 0},
		{two, []bool{true, false}, true, 0},
		{two, []bool{false, true}, true, 0},
		{two, []bool{true, true}, false, 0},
		{two, nil, false, impl.ErrRange},
		{two, []bool{true}, false, impl.ErrRange},
		{two, []bool{true, false, true}, false, impl.ErrRange},
		{impl.Cnf{}, []bool{true}, false, impl.ErrRange},
		{impl.Cnf{Vars: impl.MaxVars, Clauses: [][]int{{-impl.MaxVars}}}, make([]bool, impl.MaxVars), true, 0},
		{impl.Cnf{Vars: impl.MaxVars, Clauses: [][]int{{impl.MaxVars}}}, make([]bool, impl.MaxVars), false, 0},
	} {
		if yes, code := impl.EvalCnf(c.f, c.values); yes != c.yes || code != c.code {
			t.Errorf("EvalCnf(%v, %v) = %v, %d", c.f, c.values, yes, code)
		}
	}
}

func TestEvalCnfOnAllValues(t *testing.T) {
	r := chance()
	for range 500 {
		f := someCnf(r, 5, 8, 4)
		for number := range 1 << f.Vars {
			values := valuesOf(number, f.Vars)
			if yes, code := impl.EvalCnf(f, values); code != 0 || yes != cnfTrue(f, values) {
				t.Fatalf("EvalCnf(%v, %v) = %v, %d", f, values, yes, code)
			}
		}
	}
}

func TestDimacsText(t *testing.T) {
	for _, c := range []struct {
		f    impl.Cnf
		text string
	}{
		{impl.Cnf{}, "p cnf 0 0\n"},
		{impl.Cnf{Clauses: [][]int{{}}}, "p cnf 0 1\n0\n"},
		{impl.Cnf{Vars: 40, Clauses: [][]int{{40, -1, 40}, nil, {-40}}}, "p cnf 40 3\n40 -1 40 0\n0\n-40 0\n"},
	} {
		if text, code := impl.DimacsText(c.f); code != 0 || text != c.text {
			t.Errorf("DimacsText(%v) = %q, %d", c.f, text, code)
		}
	}
}

func TestTextIsReadAsTheFormula(t *testing.T) {
	r := chance()
	for range 3000 {
		f := someCnf(r, impl.MaxVars, 20, impl.MaxWidth)
		text, code := impl.DimacsText(f)
		if code != 0 {
			t.Fatalf("DimacsText(%v): %d", f, code)
		}
		if g, code, at := impl.ReadDimacs(text); code != 0 || at != 0 || !sameCnf(f, g) {
			t.Fatalf("ReadDimacs(%q) = %v, %d, %d", text, g, code, at)
		}
		if g, code, at := impl.ReadDimacs(loosely(text)); code != 0 || at != 0 || !sameCnf(f, g) {
			t.Fatalf("ReadDimacs(%q) = %v, %d, %d", loosely(text), g, code, at)
		}
	}
}

// loosely tells the same text with other blanks and line ends, and with lines that say nothing.
func loosely(text string) string {
	head, clauses, _ := strings.Cut(text, "\n")
	return "\n c p cnf\n \r\n" + strings.ReplaceAll(head, " ", " \t ") + "\r\n" + strings.ReplaceAll(clauses, " ", "\n\tc 7 0\n\n ")
}

func TestTheGreatestFormulaIsRead(t *testing.T) {
	f := impl.Cnf{Vars: impl.MaxVars, Clauses: repeatedClause(repeated(-impl.MaxVars, impl.MaxWidth), impl.MaxClauses)}
	text, code := impl.DimacsText(f)
	if code != 0 || len(text) != len("p cnf 40 300\n")+impl.MaxClauses*(4*impl.MaxWidth+2) {
		t.Fatal("DimacsText", len(text), code)
	}
	if g, code, at := impl.ReadDimacs(text); code != 0 || at != 0 || !sameCnf(f, g) {
		t.Error("ReadDimacs", code, at)
	}
	if _, code, at := impl.ReadDimacs(text + "0"); code != impl.ErrMany || at != len(text) {
		t.Error("ReadDimacs of one clause more", code, at)
	}
}

func TestReadDimacs(t *testing.T) {
	for _, c := range []struct {
		text string
		want impl.Cnf
	}{
		{"p cnf 0 0", impl.Cnf{}},
		{"p cnf 40 0\n", impl.Cnf{Vars: 40}},
		{"\r\n\t\np\tcnf\r 3  2 \n 1 -3\r\n\n0 2 0\n\n", impl.Cnf{Vars: 3, Clauses: [][]int{{1, -3}, {2}}}},
		{"c\nc p cnf x\n c c\np cnf 1 3\nc\n0 0\nc 0\n1 0\nc and behind", impl.Cnf{Vars: 1, Clauses: [][]int{{}, {}, {1}}}},
		{"p cnf 2 1\n1\nc 2 0\n-2 1\n0", impl.Cnf{Vars: 2, Clauses: [][]int{{1, -2, 1}}}},
		{"p cnf 1 1\n1 1 1 1 1 1 1 1 1 1 1 1 0", impl.Cnf{Vars: 1, Clauses: [][]int{repeated(1, 12)}}},
	} {
		if f, code, at := impl.ReadDimacs(c.text); code != 0 || at != 0 || !sameCnf(f, c.want) {
			t.Errorf("ReadDimacs(%q) = %v, %d, %d", c.text, f, code, at)
		}
	}
}

// fault is a text, its code, and the place of it, which is that of the first "@" (taken out of the text).
type fault struct {
	text string
	code int
}

func checkFaults(t *testing.T, faults []fault) {
	t.Helper()
	for _, c := range faults {
		place := strings.Index(c.text, "@")
		text := strings.Replace(c.text, "@", "", 1)
		if f, code, at := impl.ReadDimacs(text); code != c.code || at != place || !isZeroCnf(f) {
			t.Errorf("ReadDimacs(%q) = %v, %d, %d, not %d, %d", text, f, code, at, c.code, place)
		}
	}
}

func TestFirstLineFaults(t *testing.T) {
	checkFaults(t, []fault{
		{"@", impl.ErrSyntax},
		{" \n\t\r\n@", impl.ErrSyntax},
		{"c p cnf 1 1\nc@", impl.ErrSyntax},
		{" \n @1 0", impl.ErrSyntax},
		{"@C\np cnf 1 0", impl.ErrSyntax},
		{"@cc\np cnf 1 0", impl.ErrSyntax},
		{"c\n\t@cnf p 1 0", impl.ErrSyntax},
		{"@P cnf 1 0", impl.ErrSyntax},
		{"@pp cnf 1 0", impl.ErrSyntax},
		{"@pcnf 1 0", impl.ErrSyntax},
		{" @p", impl.ErrSyntax},
		{"@p cnf", impl.ErrSyntax},
		{"@p cnf\n1 0", impl.ErrSyntax},
		{"@p cnf 1\n0", impl.ErrSyntax},
		{"@p CNF 1 0", impl.ErrSyntax},
		{"@p dnf 1 0", impl.ErrSyntax},
		{"@p dnf x y", impl.ErrSyntax},
		{"@p cnf 1 1 1 0", impl.ErrSyntax},
		{"@p cnf x 1 1", impl.ErrSyntax},
		{"@p cnf 1 0 c", impl.ErrSyntax},
		{"@p\x0bcnf 1 0 c", impl.ErrSyntax},
	})
}

func TestHeadNumberFaults(t *testing.T) {
	for _, number := range []string{"x", "-", "-1", "-0", "00", "01", "+1", "1x", "1.", "0x1", "-41", strings.Repeat("9", 19), "1\x00", "\x0c1"} {
		checkFaults(t, []fault{
			{"p cnf @" + number + " 0", impl.ErrSyntax},
			{"p cnf 1 @" + number, impl.ErrSyntax},
			{"p cnf @" + number + " y\nz", impl.ErrSyntax},
			{"p cnf 41 @" + number + "\nz", impl.ErrSyntax},
			{"p cnf @" + number + " 301", impl.ErrSyntax},
		})
	}
	checkFaults(t, []fault{
		{"p cnf @41 300", impl.ErrRange},
		{"p cnf @41 301", impl.ErrRange},
		{"p cnf 40 @301\nx", impl.ErrRange},
		{"p cnf @" + strings.Repeat("9", 18) + " 0", impl.ErrRange},
		{"p cnf 0 @" + strings.Repeat("9", 18), impl.ErrRange},
		{"p cnf 40 300@", impl.ErrSyntax},
		{"p cnf 40 300\n@", impl.ErrSyntax},
	})
}

func TestClauseFaults(t *testing.T) {
	checkFaults(t, []fault{
		{"p cnf 1 1@", impl.ErrSyntax},
		{"p cnf 1 1\n1 -1@", impl.ErrSyntax},
		{"p cnf 1 1\n1 -1 \n\nc 0\n@", impl.ErrSyntax},
		{"p cnf 1 2\n1 0\n@", impl.ErrSyntax},
		{"p cnf 1 2\n1 0 1@", impl.ErrSyntax},
		{"p cnf 1 1\n1 @x 0", impl.ErrSyntax},
		{"p cnf 1 1\n1 @c 0", impl.ErrSyntax},
		{"p cnf 1 1\n1 @-0", impl.ErrSyntax},
		{"p cnf 1 1\n@00", impl.ErrSyntax},
		{"p cnf 1 1\n@-01 0", impl.ErrSyntax},
		{"p cnf 1 1\n@+1 0", impl.ErrSyntax},
		{"p cnf 1 1\n@p cnf 1 1\n0", impl.ErrSyntax},
		{"p cnf 1 1\n@%\n0", impl.ErrSyntax},
		{"p cnf 1 1\n@" + strings.Repeat("1", 19), impl.ErrSyntax},
		{"p cnf 1 1\n@" + strings.Repeat("1", 18), impl.ErrRange},
		{"p cnf 1 1\n@-" + strings.Repeat("1", 18), impl.ErrRange},
		{"p cnf 1 1\n1\r\n\t-1  @2 x", impl.ErrRange},
		{"p cnf 1 1\n@-2 0 0", impl.ErrRange},
		{"p cnf 0 1\n@1 0", impl.ErrRange},
		{"p cnf 40 1\n40 -40 @41 0", impl.ErrRange},
		{"p cnf 1 1\n@x 2", impl.ErrSyntax},
		{"p cnf 1 1\n@2 x", impl.ErrRange},
	})
}

func TestTooMuchFaults(t *testing.T) {
	twelve := strings.Repeat("1 ", impl.MaxWidth)
	checkFaults(t, []fault{
		{"p cnf 1 0\n@0", impl.ErrMany},
		{"p cnf 1 0\n@x", impl.ErrMany},
		{"p cnf 1 0\n@2 0", impl.ErrMany},
		{"p cnf 1 1\n1 0 @1", impl.ErrMany},
		{"p cnf 1 1\n1 0\nc x\n\n @-0", impl.ErrMany},
		{"p cnf 1 1\n1 0 @c", impl.ErrMany},
		{"p cnf 1 2\n" + twelve + "0 " + twelve + "0 @" + twelve, impl.ErrMany},
		{"p cnf 1 1\n" + twelve + "@1 0", impl.ErrSize},
		{"p cnf 1 1\n" + twelve + "@-1 x", impl.ErrSize},
		{"p cnf 1 1\n" + twelve + "@1", impl.ErrSize},
		{"p cnf 1 1\n" + twelve + "@2 0", impl.ErrRange},
		{"p cnf 1 1\n" + twelve + "@x 0", impl.ErrSyntax},
		{"p cnf 1 1\n" + twelve + "@", impl.ErrSyntax},
		{"p cnf 1 2\n0 " + twelve + "\n@1 0", impl.ErrSize},
		{"p cnf 1 2\n1 0 " + twelve + " 0 @0", impl.ErrMany},
	})
}

// TestFaultAtAnyWord puts one wrong word into a right text, and looks for just that place.
func TestFaultAtAnyWord(t *testing.T) {
	r := chance()
	for range 2000 {
		f := someCnf(r, 5, 5, 4)
		text, _ := impl.DimacsText(f)
		head := strings.Index(text, "\n") + 1
		places := []int{}
		for i := head; i < len(text); i++ {
			if text[i-1] == ' ' || text[i-1] == '\n' {
				places = append(places, i)
			}
		}
		if len(places) == 0 {
			continue
		}
		place := places[r.Intn(len(places))]
		checkFaults(t, []fault{
			{text[:place] + "@x " + text[place:], impl.ErrSyntax},
			{text[:place] + "@" + strconv.Itoa(f.Vars+1) + " " + text[place:], impl.ErrRange},
			{text + "@" + text[place:], impl.ErrMany},
			{text[:place] + "@", impl.ErrSyntax},
		})
	}
}

func TestNormalCnf(t *testing.T) {
	for _, c := range []struct{ f, want impl.Cnf }{
		{impl.Cnf{}, impl.Cnf{}},
		{impl.Cnf{Vars: 40}, impl.Cnf{Vars: 40}},
		{impl.Cnf{Vars: 2, Clauses: [][]int{{1, -1}, {2, 1, -2}}}, impl.Cnf{Vars: 2}},
		{impl.Cnf{Vars: 2, Clauses: [][]int{{-2}, {-1}, {2}, {}, {1}, nil}}, impl.Cnf{Vars: 2, Clauses: [][]int{{}, {1}, {-1}, {2}, {-2}}}},
		{impl.Cnf{Vars: 3, Clauses: [][]int{{3, -2, 1, 3, -2}}}, impl.Cnf{Vars: 3, Clauses: [][]int{{1, -2, 3}}}},
		{impl.Cnf{Vars: 3, Clauses: [][]int{{-1, 2}, {2, -1, 2}, {1, 3}, {1, -2}, {1}, {3, 1, 2}, {-1}}},
			impl.Cnf{Vars: 3, Clauses: [][]int{{1}, {1, 2, 3}, {1, -2}, {1, 3}, {-1}, {-1, 2}}}},
		{impl.Cnf{Vars: 12, Clauses: [][]int{{10}, {9}, {-10}, {-9}, {2}}}, impl.Cnf{Vars: 12, Clauses: [][]int{{2}, {9}, {-9}, {10}, {-10}}}},
	} {
		if got, code := impl.NormalCnf(c.f); code != 0 || !sameCnf(got, c.want) {
			t.Errorf("NormalCnf(%v) = %v, %d", c.f, got, code)
		}
	}
}

// aheadOf tells the order of literals in the document's words: by variables, the plain one first.
func aheadOf(a, b int) bool {
	x, y := max(a, -a), max(b, -b)
	return x < y || x == y && a > b
}

func clauseAhead(a, b []int) bool {
	for i := range min(len(a), len(b)) {
		if a[i] != b[i] {
			return aheadOf(a[i], b[i])
		}
	}
	return len(a) < len(b)
}

func isOrdered(clause []int) bool {
	for i := 1; i < len(clause); i++ {
		if !aheadOf(clause[i-1], clause[i]) || clause[i-1] == -clause[i] {
			return false
		}
	}
	return true
}

func TestInOrderItHasTheSameModels(t *testing.T) {
	r := chance()
	for range 2000 {
		f := someCnf(r, 5, 9, 4)
		g, code := impl.NormalCnf(f)
		if code != 0 || g.Vars != f.Vars || !impl.CnfOK(g) {
			t.Fatalf("NormalCnf(%v) = %v, %d", f, g, code)
		}
		for i, clause := range g.Clauses {
			if !isOrdered(clause) || i > 0 && !clauseAhead(g.Clauses[i-1], clause) {
				t.Fatalf("NormalCnf(%v) = %v is not in order", f, g)
			}
		}
		for number := range 1 << f.Vars {
			values := valuesOf(number, f.Vars)
			if cnfTrue(f, values) != cnfTrue(g, values) {
				t.Fatalf("NormalCnf(%v) = %v differs at %v", f, g, values)
			}
		}
	}
}

// TestOrderDoesNotHangOnOrder turns clauses and literals about: what is in order stays what it was.
func TestOrderDoesNotHangOnOrder(t *testing.T) {
	r := chance()
	for range 1000 {
		f := someCnf(r, 5, 8, 5)
		want, _ := impl.NormalCnf(f)
		if again, code := impl.NormalCnf(want); code != 0 || !sameCnf(again, want) {
			t.Fatalf("NormalCnf(%v) = %v", want, again)
		}
		g := copyOf(f)
		r.Shuffle(len(g.Clauses), func(i, j int) { g.Clauses[i], g.Clauses[j] = g.Clauses[j], g.Clauses[i] })
		for _, c := range g.Clauses {
			r.Shuffle(len(c), func(i, j int) { c[i], c[j] = c[j], c[i] })
		}
		if got, code := impl.NormalCnf(g); code != 0 || !sameCnf(got, want) {
			t.Fatalf("NormalCnf(%v) = %v, not %v", g, got, want)
		}
	}
}

func TestTheGreatestFormulaInOrder(t *testing.T) {
	f := impl.Cnf{Vars: impl.MaxVars, Clauses: repeatedClause(repeated(-impl.MaxVars, impl.MaxWidth), impl.MaxClauses)}
	if got, code := impl.NormalCnf(f); code != 0 || !sameCnf(got, impl.Cnf{Vars: impl.MaxVars, Clauses: [][]int{{-impl.MaxVars}}}) {
		t.Error("NormalCnf", got, code)
	}
}

func TestResolve(t *testing.T) {
	for _, c := range []struct {
		a, b []int
		v    int
		want []int
	}{
		{[]int{1}, []int{-1}, 1, nil},
		{[]int{1, 1}, []int{-1, -1}, 1, nil},
		{[]int{40, 3}, []int{-2, -40, 3}, 40, []int{-2, 3}},
		{[]int{5, -4, 2}, []int{-4, -2, 1, -4}, 2, []int{1, -4, 5}},
		{[]int{1, -1}, []int{-1, 2}, 1, []int{-1, 2}},
		{[]int{1, 2}, []int{-1, 1}, 1, []int{1, 2}},
		{[]int{1, -10, 9}, []int{-1, -8}, 1, []int{-8, 9, -10}},
	} {
		if got, code := impl.Resolve(c.a, c.b, c.v); code != 0 || !sameList(got, c.want) {
			t.Errorf("Resolve(%v, %v, %d) = %v, %d", c.a, c.b, c.v, got, code)
		}
	}
}

// TestResolventOfTheWidest: nothing bounds what two clauses resolve to.
func TestResolventOfTheWidest(t *testing.T) {
	a, b, want := []int{1}, []int{-1}, []int{}
	for i := range impl.MaxWidth - 1 {
		a = append(a, -20-i)
		b = append(b, 2+i)
		want = append(want, 2+i)
	}
	want = append(want, a[1:]...)
	if got, code := impl.Resolve(a, b, 1); code != 0 || len(got) != 22 || !sameList(got, want) {
		t.Error("Resolve", got, code)
	}
}

func TestResolveFaults(t *testing.T) {
	wide := repeated(1, impl.MaxWidth+1)
	for _, c := range []struct {
		a, b []int
		v    int
		code int
	}{
		{[]int{1}, []int{-1}, 0, impl.ErrBad},
		{[]int{1}, []int{-1}, -1, impl.ErrBad},
		{[]int{1}, []int{-1}, 41, impl.ErrBad},
		{[]int{1}, []int{-1}, math.MinInt, impl.ErrBad},
		{[]int{1}, []int{-1}, math.MaxInt, impl.ErrBad},
		{[]int{1, 0}, []int{-1}, 1, impl.ErrBad},
		{[]int{1}, []int{-1, 0}, 1, impl.ErrBad},
		{[]int{1, 41}, []int{-1}, 1, impl.ErrBad},
		{[]int{1}, []int{-1, -41}, 1, impl.ErrBad},
		{[]int{1, math.MinInt}, []int{-1}, 1, impl.ErrBad},
		{wide, []int{-1}, 1, impl.ErrBad},
		{[]int{1}, repeated(-1, impl.MaxWidth+1), 1, impl.ErrBad},
		{wide, nil, 1, impl.ErrBad},
		{[]int{2}, []int{0}, 1, impl.ErrBad},
		{repeated(1, impl.MaxWidth), repeated(-1, impl.MaxWidth), 1, 0},
		{nil, nil, 1, impl.ErrNone},
		{[]int{1}, nil, 1, impl.ErrNone},
		{nil, []int{-1}, 1, impl.ErrNone},
		{[]int{-1}, []int{1}, 1, impl.ErrNone},
		{[]int{1}, []int{1}, 1, impl.ErrNone},
		{[]int{-1}, []int{-1}, 1, impl.ErrNone},
		{[]int{1, 2}, []int{-1, -2}, 3, impl.ErrNone},
		{[]int{1, 2, -2}, []int{2}, 1, impl.ErrNone},
		{[]int{1, 2}, []int{-1, -2}, 1, impl.ErrState},
		{[]int{1, 2}, []int{-1, -2}, 2, impl.ErrState},
		{[]int{1, 2, -2}, []int{-1}, 1, impl.ErrState},
		{[]int{1}, []int{3, -1, -3}, 1, impl.ErrState},
		{[]int{1, -1}, []int{1, -1}, 1, impl.ErrState},
	} {
		if got, code := impl.Resolve(c.a, c.b, c.v); code != c.code || len(got) != 0 {
			t.Errorf("Resolve(%v, %v, %d) = %v, %d, not %d", c.a, c.b, c.v, got, code, c.code)
		}
	}
}

func TestClausesImplyWhatTheyResolveTo(t *testing.T) {
	const vars = 5
	r := chance()
	found := 0
	for range 60000 {
		a, b, v := someClause(r, vars, 4), someClause(r, vars, 4), 1+r.Intn(vars)
		got, code := impl.Resolve(a, b, v)
		if code != 0 {
			continue
		}
		found++
		if !isOrdered(got) {
			t.Fatalf("Resolve(%v, %v, %d) = %v is not in order", a, b, v, got)
		}
		for number := range 1 << vars {
			values := valuesOf(number, vars)
			if clauseTrue(a, values) && clauseTrue(b, values) && !clauseTrue(got, values) {
				t.Fatalf("Resolve(%v, %v, %d) = %v is false at %v", a, b, v, got, values)
			}
		}
	}
	if found < 500 {
		t.Errorf("only %d resolved: the test tells nothing", found)
	}
}
