package tests

import (
	"testing"

	"loop.example/g00159/impl"
)

// Tests of promise 6: the bits of words as expressions, how they are put together, and what they tell.

func sameRow(a, b []impl.Ex) bool {
	if len(a) != len(b) {
		return false
	}
	for i := range a {
		if !sameEx(a[i], b[i]) {
			return false
		}
	}
	return true
}

func checkBits(t *testing.T, w impl.Word, bits int, want ...impl.Ex) {
	t.Helper()
	if got, code := impl.WordBits(w, bits); code != 0 || !sameRow(got, want) {
		t.Fatalf("WordBits(%s, %d) = %s, %d, not %s", brief(w), bits, brief(got), code, brief(want))
	}
}

func TestBitsOfConstantsAndVariables(t *testing.T) {
	no, yes := constant(0), constant(1)
	checkBits(t, wordConst(0), 1, no)
	checkBits(t, wordConst(1), 1, yes)
	checkBits(t, wordConst(1), 3, yes, no, no)
	checkBits(t, wordConst(6), 3, no, yes, yes)
	checkBits(t, wordConst(0), 6, no, no, no, no, no, no)
	checkBits(t, wordConst(63), 6, yes, yes, yes, yes, yes, yes)
	checkBits(t, wordConst(38), 6, no, yes, yes, no, no, yes)
	checkBits(t, wordVar(0), 1, variable(0))
	checkBits(t, wordVar(11), 1, variable(11))
	checkBits(t, wordVar(5), 2, variable(10), variable(11))
	checkBits(t, wordVar(1), 3, variable(3), variable(4), variable(5))
	checkBits(t, wordVar(2), 4, variable(8), variable(9), variable(10), variable(11))
	checkBits(t, wordVar(1), 5, variable(5), variable(6), variable(7), variable(8), variable(9))
	checkBits(t, wordVar(1), 6, variable(6), variable(7), variable(8), variable(9), variable(10), variable(11))
}

// TestBitsKidByKid writes out what chapter 6 says of two bits.
func TestBitsKidByKid(t *testing.T) {
	no, yes := constant(0), constant(1)
	a, b, c, d := variable(0), variable(1), variable(2), variable(3)
	x, y := wordVar(0), wordVar(1)
	checkBits(t, meet(x, y), 2, and(a, c), and(b, d))
	checkBits(t, meet(y, x), 2, and(c, a), and(d, b))
	checkBits(t, meet(x, wordConst(2)), 2, and(a, no), and(b, yes))
	carry := or(and(a, c), and(no, xor(a, c)))
	checkBits(t, plus(x, y), 2, xor(xor(a, c), no), xor(xor(b, d), carry))
	checkBits(t, plus(y, x), 2, xor(xor(c, a), no), xor(xor(d, b), or(and(c, a), and(no, xor(c, a)))))
	checkBits(t, plus(wordConst(1), x), 1, xor(xor(yes, a), no))
	less := or(and(not(b), d), and(not(xor(b, d)), or(and(not(a), c), and(not(xor(a, c)), no))))
	checkBits(t, lesser(x, y), 2, ite(less, a, c), ite(less, b, d))
	checkBits(t, lesser(x, x), 1, ite(or(and(not(a), a), and(not(xor(a, a)), no)), a, a))
	// The third bit's carry, of three bits.
	p, q := []impl.Ex{a, b, c}, []impl.Ex{d, variable(4), variable(5)}
	first := or(and(p[0], q[0]), and(no, xor(p[0], q[0])))
	second := or(and(p[1], q[1]), and(first, xor(p[1], q[1])))
	checkBits(t, plus(x, y), 3, xor(xor(p[0], q[0]), no), xor(xor(p[1], q[1]), first), xor(xor(p[2], q[2]), second))
	// Words within words.
	sum := xor(xor(a, b), no)
	checkBits(t, meet(plus(x, y), lesser(wordVar(2), wordConst(1))), 1,
		and(sum, ite(or(and(not(c), yes), and(not(xor(c, yes)), no)), c, yes)))
	checkBits(t, plus(plus(x, y), wordVar(2)), 1, xor(xor(sum, c), no))
	checkBits(t, plus(x, plus(y, wordVar(2))), 1, xor(xor(a, xor(xor(b, c), no)), no))
}

// slowLess goes from the highest bit down.
func slowLess(a, b []impl.Ex, count int) impl.Ex {
	if count == 0 {
		return constant(0)
	}
	p, q := a[count-1], b[count-1]
	return or(and(not(p), q), and(not(xor(p, q)), slowLess(a, b, count-1)))
}

func slowEqual(a, b []impl.Ex, count int) impl.Ex {
	if count == 0 {
		return constant(1)
	}
	return and(slowEqual(a, b, count-1), not(xor(a[count-1], b[count-1])))
}

func slowCarry(a, b []impl.Ex, count int) impl.Ex {
	if count == 0 {
		return constant(0)
	}
	p, q := a[count-1], b[count-1]
	return or(and(p, q), and(slowCarry(a, b, count-1), xor(p, q)))
}

// slowRow says, bit by bit, what chapter 6 says.
func slowRow(w impl.Word, bits int) []impl.Ex {
	var a, b, row []impl.Ex
	if len(w.Kids) == 2 {
		a, b = slowRow(w.Kids[0], bits), slowRow(w.Kids[1], bits)
	}
	for i := range bits {
		switch w.Kind {
		case impl.WdConst:
			row = append(row, constant(w.N/(1<<i)%2))
		case impl.WdVar:
			row = append(row, variable(w.N*bits+i))
		case impl.WdAdd:
			row = append(row, xor(xor(a[i], b[i]), slowCarry(a, b, i)))
		case impl.WdAnd:
			row = append(row, and(a[i], b[i]))
		case impl.WdMin:
			row = append(row, ite(slowLess(a, b, bits), a[i], b[i]))
		}
	}
	return row
}

func areRight(row []impl.Ex) bool {
	for _, e := range row {
		if !impl.ExOK(e) {
			return false
		}
	}
	return true
}

func TestBitsOfAnyWord(t *testing.T) {
	r := chance()
	codes := map[int]int{}
	for range 6000 {
		bits := 1 + r.Intn(impl.MaxBits)
		w := someWord(r, bits, r.Intn(5))
		want := slowRow(w, bits)
		if areRight(want) {
			checkBits(t, w, bits, want...)
			codes[0]++
			continue
		}
		if got, code := impl.WordBits(w, bits); code != impl.ErrSize || len(got) != 0 {
			t.Fatalf("WordBits(%s, %d) = %s, %d, with a bit that is no right expression", brief(w), bits, brief(got), code)
		}
		codes[impl.ErrSize]++
	}
	if codes[0] < 2000 || codes[impl.ErrSize] < 500 {
		t.Errorf("codes %v: the test tells nothing", codes)
	}
}

// TestOneBitTooLarge: all bits below the last one are right expressions, and still there are none.
func TestOneBitTooLarge(t *testing.T) {
	found := 0
	for bits := 1; bits <= impl.MaxBits; bits++ {
		for operators := 1; operators < 5; operators++ {
			for _, w := range chains(operators) {
				want := slowRow(w, bits)
				got, code := impl.WordBits(w, bits)
				if areRight(want) != (code == 0) || code != 0 && (code != impl.ErrSize || len(got) != 0) {
					t.Errorf("WordBits(%s, %d): %d bits, code %d", brief(w), bits, len(got), code)
				}
				if areRight(want[:bits-1]) && !areRight(want) && bits > 1 {
					found++
				}
			}
		}
	}
	if found == 0 {
		t.Error("no word has just one bit that is too large: the test tells nothing")
	}
}

// numberIn reads a number from its bits.
func numberIn(t *testing.T, row []impl.Ex, values []bool) int {
	t.Helper()
	number := 0
	for i, e := range row {
		yes, code := impl.EvalEx(e, values)
		if code != 0 {
			t.Fatalf("EvalEx of a bit: code %d", code)
		}
		if yes {
			number += 1 << i
		}
	}
	return number
}

// checkBitsTell holds the bits of a word against its value over all values of the variables.
func checkBitsTell(t *testing.T, w impl.Word, bits int) {
	t.Helper()
	row, code := impl.WordBits(w, bits)
	if code != 0 || len(row) != bits {
		t.Fatalf("WordBits(%s, %d): %d bits, code %d", brief(w), bits, len(row), code)
	}
	for number := range 1 << (bits * variablesOf(bits)) {
		values := numbersOf(number, bits)
		want, code := impl.WordValue(w, bits, values)
		if code != 0 || want != slowNumber(w, bits, values) {
			t.Fatalf("WordValue(%s, %d, %v) = %d, %d", brief(w), bits, values, want, code)
		}
		if got := numberIn(t, row, valuesOf(number, impl.MaxInputs)); got != want {
			t.Fatalf("the bits of %s, %d bits, of %v tell %d, not %d", brief(w), bits, values, got, want)
		}
	}
}

func TestBitsTellWhatWordsAre(t *testing.T) {
	for bits := 1; bits <= impl.MaxBits; bits++ {
		x, y, most := wordVar(0), wordVar(lastVariables[bits-1]), wordConst(greatestNumbers[bits-1])
		for _, w := range []impl.Word{x, y, wordConst(0), wordConst(1), most} {
			checkBitsTell(t, w, bits)
		}
		for _, kind := range []int{impl.WdAdd, impl.WdAnd, impl.WdMin} {
			for _, w := range []impl.Word{wordOf(kind, x, y), wordOf(kind, y, x), wordOf(kind, x, x), wordOf(kind, most, x), wordOf(kind, y, wordConst(1))} {
				checkBitsTell(t, w, bits)
			}
		}
	}
	checkBitsTell(t, plus(meet(wordVar(0), wordVar(1)), lesser(wordVar(1), wordVar(2))), 2)
	checkBitsTell(t, lesser(plus(wordVar(0), wordConst(1)), wordVar(3)), 3)
	checkBitsTell(t, lesser(lesser(wordVar(4), wordVar(5)), plus(wordVar(6), wordVar(7))), 1)
}

func TestBitsOfSomeWordsTellWhatTheyAre(t *testing.T) {
	r := chance()
	told := 0
	for range 20000 {
		bits := 1 + r.Intn(impl.MaxBits)
		w := someWord(r, bits, r.Intn(5))
		row, code := impl.WordBits(w, bits)
		if code != 0 {
			continue
		}
		told++
		number := r.Intn(1 << (bits * variablesOf(bits)))
		want := slowNumber(w, bits, numbersOf(number, bits))
		if got := numberIn(t, row, valuesOf(number, impl.MaxInputs)); got != want {
			t.Fatalf("the bits of %s, %d bits, of %v tell %d, not %d", brief(w), bits, numbersOf(number, bits), got, want)
		}
	}
	if told < 5000 {
		t.Errorf("only %d words: the test tells nothing", told)
	}
}
