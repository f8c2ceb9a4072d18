package tests

import (
	"math"
	"testing"

	"loop.example/g00159/impl"
)

// Tests of promise 6: expressions that tell what is equal, less, and at most k of some.

type rowsCall func(a, b []impl.Ex) (impl.Ex, int)

func checkRows(t *testing.T, who string, call rowsCall, a, b []impl.Ex, want impl.Ex) {
	t.Helper()
	if got, code := call(a, b); code != 0 || !sameEx(got, want) {
		t.Fatalf("%s of %s and %s: %s, code %d, not %s", who, brief(a), brief(b), brief(got), code, brief(want))
	}
}

func checkRowsFault(t *testing.T, who string, call rowsCall, a, b []impl.Ex, want int) {
	t.Helper()
	if got, code := call(a, b); code != want || !sameEx(got, impl.Ex{}) {
		t.Errorf("%s of %d and %d bits: %s, code %d, not %d", who, len(a), len(b), brief(got), code, want)
	}
}

func TestEqualAndLessKidByKid(t *testing.T) {
	no, yes := constant(0), constant(1)
	a, b, c, d := variable(0), variable(11), not(variable(2)), constant(1)
	for _, none := range [][]impl.Ex{nil, {}} {
		checkRows(t, "EqualEx", impl.EqualEx, none, nil, yes)
		checkRows(t, "LessEx", impl.LessEx, nil, none, no)
	}
	checkRows(t, "EqualEx", impl.EqualEx, []impl.Ex{a}, []impl.Ex{c}, and(yes, not(xor(a, c))))
	checkRows(t, "EqualEx", impl.EqualEx, []impl.Ex{a, b}, []impl.Ex{c, d}, and(and(yes, not(xor(a, c))), not(xor(b, d))))
	less := or(and(not(a), c), and(not(xor(a, c)), no))
	checkRows(t, "LessEx", impl.LessEx, []impl.Ex{a}, []impl.Ex{c}, less)
	checkRows(t, "LessEx", impl.LessEx, []impl.Ex{a, b}, []impl.Ex{c, d}, or(and(not(b), d), and(not(xor(b, d)), less)))
	checkRows(t, "LessEx", impl.LessEx, []impl.Ex{a}, []impl.Ex{a}, or(and(not(a), a), and(not(xor(a, a)), no)))
}

func TestEqualAndLessOfAnyRows(t *testing.T) {
	r := chance()
	codes := map[int]int{}
	for range 6000 {
		count := r.Intn(impl.MaxBits + 1)
		var a, b []impl.Ex
		for range count {
			a, b = append(a, someEx(r, 12, 1+r.Intn(300), 12)), append(b, someEx(r, 12, 1+r.Intn(300), impl.MaxDepth))
		}
		for _, c := range []struct {
			who  string
			call rowsCall
			want impl.Ex
		}{{"EqualEx", impl.EqualEx, slowEqual(a, b, count)}, {"LessEx", impl.LessEx, slowLess(a, b, count)}} {
			if impl.ExOK(c.want) {
				checkRows(t, c.who, c.call, a, b, c.want)
				codes[0]++
				continue
			}
			checkRowsFault(t, c.who, c.call, a, b, impl.ErrSize)
			codes[impl.ErrSize]++
		}
	}
	if codes[0] < 2000 || codes[impl.ErrSize] < 500 {
		t.Errorf("codes %v: the test tells nothing", codes)
	}
}

// TestWhichIsLess holds what the bits of two words tell against the values, over all values of the variables.
func TestWhichIsLess(t *testing.T) {
	for bits := 1; bits <= impl.MaxBits; bits++ {
		x, y, c := wordVar(0), wordVar(lastVariables[bits-1]), wordConst(greatestNumbers[bits-1]/2+1)
		words := [][2]impl.Word{{x, y}, {y, x}, {x, c}, {c, y}, {x, x}, {meet(x, y), x}, {y, meet(x, c)}}
		if bits <= 3 {
			words = append(words, [2]impl.Word{plus(x, y), x}, [2]impl.Word{x, plus(y, wordConst(1))})
		}
		for _, pair := range words {
			checkWhichIsLess(t, bits, pair[0], pair[1])
		}
	}
}

func checkWhichIsLess(t *testing.T, bits int, v, w impl.Word) {
	t.Helper()
	a, _ := impl.WordBits(v, bits)
	b, _ := impl.WordBits(w, bits)
	less, lessCode := impl.LessEx(a, b)
	equal, equalCode := impl.EqualEx(a, b)
	if len(a) != bits || lessCode != 0 || equalCode != 0 {
		t.Fatalf("%s and %s, %d bits: codes %d, %d", brief(v), brief(w), bits, lessCode, equalCode)
	}
	for number := range 1 << (bits * variablesOf(bits)) {
		values, numbers := valuesOf(number, impl.MaxInputs), numbersOf(number, bits)
		p, _ := impl.WordValue(v, bits, numbers)
		q, _ := impl.WordValue(w, bits, numbers)
		checkValue(t, less, values, p < q)
		checkValue(t, equal, values, p == q)
	}
}

// repeatedEx is a list of so many of one expression.
func repeatedEx(e impl.Ex, times int) []impl.Ex {
	list := make([]impl.Ex, times)
	for i := range list {
		list[i] = e
	}
	return list
}

// behind is a list of variables with one expression at a place.
func behind(count, place int, e impl.Ex) []impl.Ex {
	list := repeatedEx(variable(0), count)
	list[place] = e
	return list
}

func TestEqualAndLessFaults(t *testing.T) {
	x, wrong := variable(0), node(0)
	six, seven := repeatedEx(x, 6), repeatedEx(x, 7)
	most, more := repeatedEx(x, impl.MaxList), repeatedEx(x, impl.MaxList+1)
	for who, call := range map[string]rowsCall{"EqualEx": impl.EqualEx, "LessEx": impl.LessEx} {
		for _, c := range []struct {
			a, b []impl.Ex
			code int
		}{
			// As many, at most MaxBits.
			{nil, six[:1], impl.ErrRange}, {six[:1], nil, impl.ErrRange}, {six[:2], six[:3], impl.ErrRange}, {six, six[:5], impl.ErrRange}, {six, seven, impl.ErrRange}, {seven, six, impl.ErrRange},
			{seven, seven, impl.ErrRange}, {most, most, impl.ErrRange}, {most, nil, impl.ErrRange},
			// ErrRange is told ahead of ErrBad.
			{[]impl.Ex{wrong}, nil, impl.ErrRange}, {nil, []impl.Ex{wrong}, impl.ErrRange}, {repeatedEx(wrong, 7), seven, impl.ErrRange}, {repeatedEx(wrong, 7), repeatedEx(wrong, 7), impl.ErrRange},
			{[]impl.Ex{wrong}, []impl.Ex{wrong}, impl.ErrBad}, {repeatedEx(wrong, 6), repeatedEx(wrong, 6), impl.ErrBad},
			// ErrBad is told ahead of ErrSize.
			{[]impl.Ex{sized(impl.MaxEx), x}, []impl.Ex{x, wrong}, impl.ErrBad}, {[]impl.Ex{sized(impl.MaxEx)}, []impl.Ex{sized(impl.MaxEx + 1)}, impl.ErrBad},
			{[]impl.Ex{sized(impl.MaxEx)}, []impl.Ex{sized(impl.MaxEx)}, impl.ErrSize}, {[]impl.Ex{deep(impl.MaxDepth, x)}, []impl.Ex{x}, impl.ErrSize},
			{[]impl.Ex{deep(impl.MaxDepth+1, x)}, []impl.Ex{x}, impl.ErrBad}, {[]impl.Ex{x}, []impl.Ex{rounds(impl.ExAnd, 2)}, impl.ErrBad},
			// ErrLong is told ahead of all.
			{more, nil, impl.ErrLong}, {nil, more, impl.ErrLong}, {more, more, impl.ErrLong}, {[]impl.Ex{wrong}, more, impl.ErrLong}, {make([]impl.Ex, impl.MaxList+1), most, impl.ErrLong},
		} {
			checkRowsFault(t, who, call, c.a, c.b, c.code)
		}
		for place := range 6 {
			for _, e := range wrongExpressions() {
				checkRowsFault(t, who, call, behind(6, place, e), six, impl.ErrBad)
				checkRowsFault(t, who, call, six, behind(6, place, e), impl.ErrBad)
			}
		}
	}
}

// TestEqualAndLessHaveRoom: results of just MaxEx nodes or MaxDepth deep, and of one more.
func TestEqualAndLessHaveRoom(t *testing.T) {
	row := func(e impl.Ex) []impl.Ex { return []impl.Ex{e} }
	x := variable(0)
	// Four nodes, and those of both.
	checkRows(t, "EqualEx", impl.EqualEx, row(sized(198)), row(sized(198)), and(constant(1), not(xor(sized(198), sized(198)))))
	checkRowsFault(t, "EqualEx", impl.EqualEx, row(sized(198)), row(sized(199)), impl.ErrSize)
	checkRowsFault(t, "EqualEx", impl.EqualEx, row(sized(199)), row(sized(198)), impl.ErrSize)
	// Seven nodes, and those of both twice.
	if e, code := impl.LessEx(row(sized(98)), row(sized(98))); code != 0 || !sameEx(e, slowLess(row(sized(98)), row(sized(98)), 1)) {
		t.Error("LessEx of 399 nodes", code)
	}
	checkRowsFault(t, "LessEx", impl.LessEx, row(sized(98)), row(sized(99)), impl.ErrSize)
	checkRowsFault(t, "LessEx", impl.LessEx, row(sized(99)), row(sized(98)), impl.ErrSize)
	for count := 1; count <= impl.MaxBits; count++ {
		plain := repeatedEx(x, count)
		for place := range count {
			below := count - 1 - place
			most, more := behind(count, place, deep(37-below, x)), behind(count, place, deep(38-below, x))
			checkRows(t, "EqualEx", impl.EqualEx, most, plain, slowEqual(most, plain, count))
			checkRows(t, "EqualEx", impl.EqualEx, plain, most, slowEqual(plain, most, count))
			checkRowsFault(t, "EqualEx", impl.EqualEx, more, plain, impl.ErrSize)
			checkRowsFault(t, "EqualEx", impl.EqualEx, plain, more, impl.ErrSize)
			most, more = behind(count, place, deep(36-2*below, x)), behind(count, place, deep(37-2*below, x))
			checkRows(t, "LessEx", impl.LessEx, most, plain, slowLess(most, plain, count))
			checkRows(t, "LessEx", impl.LessEx, plain, most, slowLess(plain, most, count))
			checkRowsFault(t, "LessEx", impl.LessEx, more, plain, impl.ErrSize)
			checkRowsFault(t, "LessEx", impl.LessEx, plain, more, impl.ErrSize)
		}
	}
}

func checkAtMost(t *testing.T, k int, list []impl.Ex, want impl.Ex) {
	t.Helper()
	if got, code := impl.AtMostEx(k, list); code != 0 || !sameEx(got, want) {
		t.Fatalf("AtMostEx(%d, %s) = %s, %d, not %s", k, brief(list), brief(got), code, brief(want))
	}
}

func TestAtMostKidByKid(t *testing.T) {
	no, yes := constant(0), constant(1)
	a, b, c := variable(7), not(variable(0)), variable(2)
	for _, none := range [][]impl.Ex{nil, {}} {
		checkAtMost(t, -1, none, no)
		for k := range impl.MaxBits + 1 {
			checkAtMost(t, k, none, yes)
		}
	}
	checkAtMost(t, -1, []impl.Ex{a, b, c}, no)
	checkAtMost(t, 0, []impl.Ex{a}, ite(a, no, yes))
	checkAtMost(t, 1, []impl.Ex{a}, ite(a, yes, yes))
	checkAtMost(t, 6, []impl.Ex{a}, ite(a, yes, yes))
	checkAtMost(t, 0, []impl.Ex{a, b}, ite(a, no, ite(b, no, yes)))
	checkAtMost(t, 1, []impl.Ex{a, b}, ite(a, ite(b, no, yes), ite(b, yes, yes)))
	checkAtMost(t, 2, []impl.Ex{a, b}, ite(a, ite(b, yes, yes), ite(b, yes, yes)))
	checkAtMost(t, 0, []impl.Ex{a, b, c}, ite(a, no, ite(b, no, ite(c, no, yes))))
	checkAtMost(t, 1, []impl.Ex{a, b, c}, ite(a, ite(b, no, ite(c, no, yes)), ite(b, ite(c, no, yes), ite(c, yes, yes))))
}

// slowAtMost counts what is true from the first on, and says so at the end of each way.
func slowAtMost(k int, list []impl.Ex, place, count int) impl.Ex {
	if count > k {
		return constant(0)
	}
	if place == len(list) {
		return constant(1)
	}
	return ite(list[place], slowAtMost(k, list, place+1, count+1), slowAtMost(k, list, place+1, count))
}

func TestAtMostTellsHowManyAreTrue(t *testing.T) {
	r := chance()
	codes := map[int]int{}
	for range 3000 {
		var list []impl.Ex
		for range r.Intn(impl.MaxBits + 1) {
			list = append(list, someEx(r, 6, 1+r.Intn(40), 1+r.Intn(impl.MaxDepth)))
		}
		for k := -1; k <= impl.MaxBits; k++ {
			want := slowAtMost(k, list, 0, 0)
			e, code := impl.AtMostEx(k, list)
			codes[code]++
			if !impl.ExOK(want) {
				if code != impl.ErrSize || !sameEx(e, impl.Ex{}) {
					t.Fatalf("AtMostEx(%d, %s) = %s, %d", k, brief(list), brief(e), code)
				}
				continue
			}
			checkAtMost(t, k, list, want)
			values := valuesOf(r.Intn(64), 6)
			count := 0
			for _, one := range list {
				count += slowValue(one, values)
			}
			checkValue(t, e, values, count <= k)
		}
	}
	if codes[0] < 5000 || codes[impl.ErrSize] < 500 {
		t.Errorf("codes %v: the test tells nothing", codes)
	}
}

func TestAtMostOverAllValues(t *testing.T) {
	for count := range impl.MaxBits + 1 {
		var list []impl.Ex
		for n := range count {
			list = append(list, variable(n))
		}
		for k := -1; k <= impl.MaxBits; k++ {
			e, code := impl.AtMostEx(k, list)
			if code != 0 {
				t.Fatalf("AtMostEx(%d) of %d variables: code %d", k, count, code)
			}
			for number := range 1 << count {
				values, many := valuesOf(number, count), 0
				for _, value := range values {
					if value {
						many++
					}
				}
				checkValue(t, e, values, many <= k)
			}
		}
	}
}

func TestAtMostFaults(t *testing.T) {
	x, wrong := variable(0), node(0)
	for _, c := range []struct {
		k    int
		list []impl.Ex
		code int
	}{
		{-1, nil, 0}, {-2, nil, impl.ErrRange}, {0, nil, 0}, {6, nil, 0}, {7, nil, impl.ErrRange}, {math.MinInt, nil, impl.ErrRange}, {math.MaxInt, nil, impl.ErrRange},
		{-1, repeatedEx(x, 6), 0}, {-1, repeatedEx(x, 7), impl.ErrRange}, {6, repeatedEx(x, 6), 0}, {6, repeatedEx(x, 7), impl.ErrRange}, {7, repeatedEx(x, 7), impl.ErrRange},
		{0, repeatedEx(x, impl.MaxList), impl.ErrRange}, {-2, repeatedEx(x, 6), impl.ErrRange},
		// ErrRange is told ahead of ErrBad, ErrBad ahead of ErrSize.
		{-2, []impl.Ex{wrong}, impl.ErrRange}, {7, []impl.Ex{wrong}, impl.ErrRange}, {0, repeatedEx(wrong, 7), impl.ErrRange}, {0, repeatedEx(wrong, 6), impl.ErrBad},
		{1, []impl.Ex{sized(impl.MaxEx), wrong}, impl.ErrBad}, {0, []impl.Ex{rounds(impl.ExNot, 1)}, impl.ErrBad}, {0, []impl.Ex{deep(impl.MaxDepth+1, x)}, impl.ErrBad},
		// Though the result has none of them.
		{-1, []impl.Ex{wrong}, impl.ErrBad}, {-1, behind(6, 5, wrong), impl.ErrBad}, {-1, repeatedEx(sized(impl.MaxEx), 6), 0}, {-1, []impl.Ex{sized(impl.MaxEx + 1)}, impl.ErrBad},
		// Three nodes and its own.
		{0, []impl.Ex{sized(397)}, 0}, {0, []impl.Ex{sized(398)}, impl.ErrSize}, {0, []impl.Ex{deep(39, x)}, 0}, {0, []impl.Ex{deep(40, x)}, impl.ErrSize},
		{0, behind(6, 5, deep(34, x)), 0}, {0, behind(6, 5, deep(35, x)), impl.ErrSize}, {6, behind(6, 0, deep(39, x)), 0}, {6, behind(6, 0, deep(40, x)), impl.ErrSize},
		// ErrLong is told ahead of all.
		{0, repeatedEx(x, impl.MaxList+1), impl.ErrLong}, {-2, repeatedEx(wrong, impl.MaxList+1), impl.ErrLong}, {math.MaxInt, repeatedEx(x, impl.MaxList+1), impl.ErrLong},
	} {
		if e, code := impl.AtMostEx(c.k, c.list); code != c.code || code != 0 && !sameEx(e, impl.Ex{}) || code == 0 && !impl.ExOK(e) {
			t.Errorf("AtMostEx(%d) of %d expressions: %s, code %d, not %d", c.k, len(c.list), brief(e), code, c.code)
		}
	}
	for place := range 6 {
		for _, e := range wrongExpressions() {
			if got, code := impl.AtMostEx(place, behind(6, place, e)); code != impl.ErrBad || !sameEx(got, impl.Ex{}) {
				t.Errorf("AtMostEx with a wrong one at %d: %s, code %d", place, brief(got), code)
			}
		}
	}
}
