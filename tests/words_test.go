package tests

import (
	"math"
	"math/rand"
	"testing"

	"loop.example/g00159/impl"
)

// Tests of promise 6: words, which are right, and their values.

func wordConst(n int) impl.Word { return impl.Word{Kind: impl.WdConst, N: n} }

func wordVar(n int) impl.Word { return impl.Word{Kind: impl.WdVar, N: n} }

func wordOf(kind int, kids ...impl.Word) impl.Word { return impl.Word{Kind: kind, Kids: kids} }

func plus(a, b impl.Word) impl.Word { return wordOf(impl.WdAdd, a, b) }

func meet(a, b impl.Word) impl.Word { return wordOf(impl.WdAnd, a, b) }

func lesser(a, b impl.Word) impl.Word { return wordOf(impl.WdMin, a, b) }

// lastVariables has, for 1 to 6 bits, the last variable that words of so many bits may have.
var lastVariables = []int{11, 5, 3, 2, 1, 1}

// greatestNumbers has, for 1 to 6 bits, the greatest number of so many bits.
var greatestNumbers = []int{1, 3, 7, 15, 31, 63}

// variablesOf answers how many variables words of so many bits may have.
func variablesOf(bits int) int {
	return lastVariables[bits-1] + 1
}

// chains are words of as many operators, on top of each other at the first Kids, at the last ones and by turns.
func chains(operators int) []impl.Word {
	left, right, both := wordVar(0), wordVar(0), wordVar(0)
	for i := range operators {
		kind := impl.WdAdd + i%3
		left, right = wordOf(kind, left, wordVar(0)), wordOf(kind, wordVar(0), right)
		both = wordOf(kind, wordVar(0), both)
		both.Kids[0], both.Kids[1] = both.Kids[i%2], both.Kids[1-i%2]
	}
	return []impl.Word{left, right, both}
}

// checkWord holds all calls that take a word against whether it is right.
func checkWord(t *testing.T, who string, w impl.Word, bits int, want bool) {
	t.Helper()
	if impl.WordOK(w, bits) != want {
		t.Errorf("WordOK of %s, %d bits, is %v", who, bits, !want)
	}
	var values []int
	if bits >= 1 && bits <= impl.MaxBits {
		values = make([]int, variablesOf(bits))
	}
	number, code := impl.WordValue(w, bits, values)
	row, bitsCode := impl.WordBits(w, bits)
	if want && (code != 0 || bitsCode != 0 && bitsCode != impl.ErrSize) {
		t.Errorf("%s, %d bits: WordValue tells code %d, WordBits %d", who, bits, code, bitsCode)
	}
	if !want && (code != impl.ErrBad || number != 0 || bitsCode != impl.ErrBad || len(row) != 0) {
		t.Errorf("%s, %d bits: WordValue tells %d, code %d, WordBits %d bits, code %d", who, bits, number, code, len(row), bitsCode)
	}
}

func TestRightWords(t *testing.T) {
	for bits := 1; bits <= impl.MaxBits; bits++ {
		x, c := wordVar(lastVariables[bits-1]), wordConst(greatestNumbers[bits-1])
		right := []impl.Word{
			x, c, wordVar(0), wordConst(0), wordConst(1), plus(x, c), meet(c, x), lesser(x, x), plus(c, c),
			plus(meet(x, c), lesser(x, c)), plus(plus(x, c), plus(c, x)),
			{Kind: impl.WdVar, Kids: []impl.Word{}}, {Kind: impl.WdConst, N: 1, Kids: []impl.Word{}},
			// 9 nodes, however they stand.
			meet(meet(meet(x, c), x), meet(x, c)), lesser(meet(x, x), lesser(meet(c, c), x)), plus(x, meet(plus(x, x), meet(x, x))),
		}
		for operators := range 5 {
			right = append(right, chains(operators)...)
		}
		for _, w := range right {
			checkWord(t, "a right word", w, bits, true)
		}
	}
}

// wrongWords are wrong of any number of bits.
func wrongWords() []impl.Word {
	a := wordVar(0)
	wrong := []impl.Word{
		{}, {N: 1}, {Kids: []impl.Word{a}}, wordVar(-1), wordVar(12), wordVar(math.MaxInt), wordVar(math.MinInt),
		wordConst(-1), wordConst(64), wordConst(math.MaxInt), wordConst(math.MinInt), wordConst(1 << 32),
	}
	for _, kind := range []int{impl.WdConst, impl.WdVar} {
		wrong = append(wrong, wordOf(kind, a), wordOf(kind, a, a), wordOf(kind, a, a, a), impl.Word{Kind: kind, N: 1, Kids: []impl.Word{a}})
	}
	for _, kind := range []int{-1, 0, 6, 7, -3, math.MaxInt, math.MinInt, 1 << 32, 1<<32 + impl.WdVar} {
		for kids := range 4 {
			wrong = append(wrong, wordOf(kind, []impl.Word{a, a, a}[:kids]...))
		}
	}
	for _, kind := range []int{impl.WdAdd, impl.WdAnd, impl.WdMin} {
		wrong = append(wrong, wordOf(kind), wordOf(kind, a), wordOf(kind, a, a, a))
		for _, n := range []int{-1, 1, 2, math.MinInt, math.MaxInt} {
			wrong = append(wrong, impl.Word{Kind: kind, N: n, Kids: []impl.Word{a, a}})
		}
	}
	return wrong
}

func TestWrongWords(t *testing.T) {
	a := wordVar(0)
	for bits := 1; bits <= impl.MaxBits; bits++ {
		wrong := append(wrongWords(), wordVar(lastVariables[bits-1]+1), wordConst(greatestNumbers[bits-1]+1))
		for _, w := range wrong {
			checkWord(t, "a wrong word", w, bits, false)
			for _, within := range []impl.Word{plus(w, a), plus(a, w), meet(w, a), meet(a, w), lesser(w, a), lesser(a, w), plus(a, meet(lesser(a, plus(a, w)), a))} {
				checkWord(t, "one with a wrong one within", within, bits, false)
			}
		}
	}
}

func TestHowManyBits(t *testing.T) {
	for _, w := range []impl.Word{wordConst(0), wordConst(1), wordVar(0), wordVar(1), plus(wordVar(0), wordConst(1))} {
		for bits := 1; bits <= impl.MaxBits; bits++ {
			checkWord(t, "a right word", w, bits, true)
		}
		for _, bits := range []int{0, -1, -6, 7, 8, 12, 13, 63, 64, 65, 1 << 32, 1<<32 + 3, math.MaxInt, math.MinInt} {
			checkWord(t, "a right word, but for the bits", w, bits, false)
		}
	}
}

func TestHowManyNodesOfAWord(t *testing.T) {
	a := wordVar(0)
	for bits := 1; bits <= impl.MaxBits; bits++ {
		for operators := 5; operators < 40; operators++ {
			for _, w := range chains(operators) {
				checkWord(t, "a chain of more than 9 nodes", w, bits, false)
			}
		}
		three, five := plus(a, a), plus(meet(a, a), a)
		checkWord(t, "9 nodes", meet(three, five), bits, true)
		checkWord(t, "9 nodes", meet(five, three), bits, true)
		for _, w := range []impl.Word{meet(five, five), meet(plus(three, three), three), meet(three, plus(three, three)), lesser(meet(three, three), lesser(three, a))} {
			checkWord(t, "more than 9 nodes", w, bits, false)
		}
		// 10 nodes, of which one has a Kid too few, too.
		checkWord(t, "10 nodes", meet(meet(three, five), wordOf(impl.WdAdd)), bits, false)
	}
}

// wordRounds is among its own Kids.
func wordRounds(kind, kids int) impl.Word {
	list := make([]impl.Word, kids)
	for i := range list {
		list[i] = impl.Word{Kind: kind, Kids: list}
	}
	return list[0]
}

// TestWordsWithoutEnd: what no run could go through is told to be wrong at once.
func TestWordsWithoutEnd(t *testing.T) {
	a := wordVar(0)
	wide := make([]impl.Word, 1000000)
	for i := range wide {
		wide[i] = a
	}
	deepLeft, deepRight, twice := a, a, a
	for i := range 1000000 {
		deepLeft, deepRight = plus(deepLeft, a), lesser(a, deepRight)
		if i < 1000 {
			twice = meet(twice, twice)
		}
	}
	inTime(t, "words that are deep or broad", func() {
		for kind := range 7 {
			checkWord(t, "a million Kids", impl.Word{Kind: kind, Kids: wide}, 3, false)
			for kids := 1; kids < 4; kids++ {
				checkWord(t, "one among its own Kids", wordRounds(kind, kids), 3, false)
			}
		}
		for _, w := range []impl.Word{deepLeft, deepRight, twice, plus(wordConst(8), deepLeft), plus(deepLeft, wordConst(8))} {
			checkWord(t, "a deep one", w, 3, false)
			checkWord(t, "a deep one of no bits", w, 0, false)
		}
	})
}

func checkWordValue(t *testing.T, w impl.Word, bits int, values []int, want int) {
	t.Helper()
	if got, code := impl.WordValue(w, bits, values); code != 0 || got != want {
		t.Fatalf("WordValue(%s, %d, %v) = %d, %d, not %d", brief(w), bits, values, got, code, want)
	}
}

func TestWordValue(t *testing.T) {
	x, y := wordVar(0), wordVar(1)
	for _, row := range []struct {
		w      impl.Word
		bits   int
		values []int
		want   int
	}{
		{wordConst(0), 6, []int{7, 9}, 0}, {wordConst(63), 6, []int{7, 9}, 63}, {x, 6, []int{63, 9}, 63}, {y, 6, []int{63, 9}, 9}, {y, 5, []int{3, 31}, 31},
		{wordVar(11), 1, []int{0, 0, 0, 0, 0, 0, 0, 0, 0, 0, 0, 1}, 1}, {wordVar(10), 1, []int{0, 0, 0, 0, 0, 0, 0, 0, 0, 0, 0, 1}, 0}, {wordVar(5), 2, []int{0, 0, 0, 0, 1, 2}, 2},
		{wordVar(3), 3, []int{1, 2, 3, 4}, 4}, {wordVar(2), 4, []int{1, 2, 15}, 15},
		// Sums that do, and do not, go over.
		{plus(x, y), 6, []int{31, 32}, 63}, {plus(x, y), 6, []int{32, 32}, 0}, {plus(x, y), 6, []int{63, 63}, 62}, {plus(x, y), 5, []int{16, 15}, 31}, {plus(x, y), 5, []int{17, 15}, 0},
		{plus(x, wordConst(1)), 3, []int{7, 0, 0, 0}, 0}, {plus(x, wordConst(1)), 4, []int{7, 0, 0}, 8}, {plus(wordConst(1), wordConst(1)), 1, make([]int, 12), 0},
		{plus(plus(wordConst(3), wordConst(3)), plus(wordConst(3), wordConst(3))), 2, make([]int, 6), 0}, {plus(plus(wordConst(3), wordConst(3)), wordConst(3)), 2, make([]int, 6), 1},
		{lesser(plus(x, y), x), 6, []int{40, 30}, 6}, {meet(plus(x, y), wordConst(8)), 4, []int{7, 1, 0}, 8}, {meet(plus(x, y), wordConst(1)), 4, []int{9, 7, 0}, 0},
		{meet(x, y), 6, []int{53, 30}, 20}, {meet(x, y), 6, []int{21, 42}, 0}, {meet(x, x), 6, []int{21, 42}, 21},
		{lesser(x, y), 6, []int{5, 6}, 5}, {lesser(x, y), 6, []int{6, 5}, 5}, {lesser(x, y), 6, []int{63, 0}, 0}, {lesser(x, x), 6, []int{9, 0}, 9}, {lesser(y, x), 5, []int{31, 30}, 30},
	} {
		checkWordValue(t, row.w, row.bits, row.values, row.want)
	}
}

// someWord is right, of at most so many operators.
func someWord(r *rand.Rand, bits, operators int) impl.Word {
	if operators == 0 {
		if r.Intn(4) == 0 {
			return wordConst(r.Intn(1 << bits))
		}
		return wordVar(r.Intn(variablesOf(bits)))
	}
	left := r.Intn(operators)
	return wordOf(impl.WdAdd+r.Intn(3), someWord(r, bits, left), someWord(r, bits, operators-1-left))
}

// slowNumber goes bit by bit, and from greater numbers down, as nothing in the program does.
func slowNumber(w impl.Word, bits int, values []int) int {
	switch w.Kind {
	case impl.WdConst:
		return w.N
	case impl.WdVar:
		return values[w.N]
	}
	a, b := slowNumber(w.Kids[0], bits, values), slowNumber(w.Kids[1], bits, values)
	number := 0
	switch w.Kind {
	case impl.WdAdd:
		number = a + b
		for number > greatestNumbers[bits-1] {
			number -= greatestNumbers[bits-1] + 1
		}
	case impl.WdAnd:
		for weight := 1; weight <= 32; weight *= 2 {
			if a/weight%2 == 1 && b/weight%2 == 1 {
				number += weight
			}
		}
	case impl.WdMin:
		number = a
		if b < a {
			number = b
		}
	}
	return number
}

// numbersOf reads the values of all variables of words of so many bits from the bits of a number.
func numbersOf(number, bits int) []int {
	values := make([]int, variablesOf(bits))
	for i := range values {
		values[i] = number >> (i * bits) & greatestNumbers[bits-1]
	}
	return values
}

func TestWordValueOfAnyWord(t *testing.T) {
	r := chance()
	for range 40000 {
		bits := 1 + r.Intn(impl.MaxBits)
		w := someWord(r, bits, r.Intn(5))
		values := numbersOf(r.Intn(1<<12), bits)
		checkWordValue(t, w, bits, values, slowNumber(w, bits, values))
	}
}

func TestWordValueFaults(t *testing.T) {
	x, wrong := wordVar(0), wordConst(64)
	for bits := 1; bits <= impl.MaxBits; bits++ {
		count, most := variablesOf(bits), greatestNumbers[bits-1]
		for length := range 15 {
			want := impl.ErrRange
			if length == count {
				want = 0
			}
			// A value for each variable, though the word has none of them.
			for _, w := range []impl.Word{x, wordConst(0), plus(wordConst(0), x)} {
				if got, code := impl.WordValue(w, bits, make([]int, length)); code != want || got != 0 {
					t.Errorf("WordValue, %d bits, of %d values: %d, code %d", bits, length, got, code)
				}
			}
		}
		for place := range count {
			values := repeated(most, count)
			checkWordValue(t, x, bits, values, most)
			for _, n := range []int{-1, most + 1, -most, 64, math.MinInt, math.MaxInt, 1 << 32} {
				values[place] = n
				if got, code := impl.WordValue(wordConst(1), bits, values); code != impl.ErrRange || got != 0 {
					t.Errorf("WordValue, %d bits, of %v: %d, code %d", bits, values, got, code)
				}
			}
		}
	}
	for _, c := range []struct {
		w      impl.Word
		bits   int
		values []int
		code   int
	}{
		// ErrBad is told ahead of ErrRange.
		{wrong, 6, nil, impl.ErrBad}, {wrong, 6, []int{64, -1}, impl.ErrBad}, {plus(x, wrong), 6, nil, impl.ErrBad}, {x, 7, nil, impl.ErrBad}, {x, 0, nil, impl.ErrBad},
		{x, 0, []int{1}, impl.ErrBad}, {x, -1, []int{-1}, impl.ErrBad}, {x, 13, []int{1}, impl.ErrBad}, {wordVar(2), 6, []int{1, 2, 3}, impl.ErrBad},
		// ErrLong is told ahead of all.
		{x, 6, make([]int, impl.MaxList), impl.ErrRange}, {x, 6, make([]int, impl.MaxList+1), impl.ErrLong}, {wrong, 6, make([]int, impl.MaxList), impl.ErrBad},
		{wrong, 6, make([]int, impl.MaxList+1), impl.ErrLong}, {x, 0, make([]int, impl.MaxList), impl.ErrBad}, {x, 0, make([]int, impl.MaxList+1), impl.ErrLong},
		{x, 6, repeated(-1, impl.MaxList+1), impl.ErrLong},
	} {
		if got, code := impl.WordValue(c.w, c.bits, c.values); code != c.code || got != 0 {
			t.Errorf("WordValue(%v, %d) of %d values: %d, code %d, not %d", c.w, c.bits, len(c.values), got, code, c.code)
		}
	}
}
