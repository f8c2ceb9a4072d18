package tests

import (
	"fmt"
	"math/rand"
	"strings"
	"testing"

	"loop.example/g00159/impl"
)

// Tests of promise 1, of words: arguments stay, nothing panics, answers are new memory, nothing hangs on earlier calls.

// oddWord is mostly wrong, and may have Kids and an N of any kind.
func oddWord(r *rand.Rand, depth int) impl.Word {
	w := impl.Word{Kind: r.Intn(7)}
	if r.Intn(3) == 0 {
		w.N = oddNumbers[r.Intn(len(oddNumbers))]
	}
	if r.Intn(20) == 0 {
		w.Kind = oddNumbers[r.Intn(len(oddNumbers))]
	}
	if depth > 1 && (w.Kind > impl.WdVar || r.Intn(6) == 0) {
		for range 1 + r.Intn(3) {
			w.Kids = append(w.Kids, oddWord(r, depth-1))
		}
	}
	return w
}

func TestWordsNeverPanic(t *testing.T) {
	r := chance()
	right := 0
	for range 100000 {
		bits := r.Intn(9) - 1
		if r.Intn(10) == 0 {
			bits = oddNumbers[r.Intn(len(oddNumbers))]
		}
		w, values := oddWord(r, 1+r.Intn(4)), oddList(r)
		if r.Intn(2) == 0 {
			values = make([]int, r.Intn(14))
		}
		if bits >= 1 && bits <= impl.MaxBits && r.Intn(8) == 0 {
			w = someWord(r, bits, r.Intn(6))
		}
		ok := impl.WordOK(w, bits)
		if ok && len(w.Kids) > 0 {
			right++
		}
		number, code := impl.WordValue(w, bits, values)
		checkCode(t, "WordValue", code)
		if (code == impl.ErrBad) == ok || code != 0 && number != 0 || code == 0 && (number < 0 || number >= 1<<bits) {
			t.Fatalf("WordValue(%s, %d, %v) = %d, %d", brief(w), bits, values, number, code)
		}
		row, code := impl.WordBits(w, bits)
		checkCode(t, "WordBits", code)
		if (code == impl.ErrBad) == ok || code != 0 && len(row) != 0 || code == 0 && (len(row) != bits || !areRight(row)) {
			t.Fatalf("WordBits(%s, %d) = %s, %d", brief(w), bits, brief(row), code)
		}
	}
	if right < 500 {
		t.Errorf("only %d are right: the test tells nothing", right)
	}
}

// oddRow has right and wrong expressions.
func oddRow(r *rand.Rand, wrong int) []impl.Ex {
	var row []impl.Ex
	for range r.Intn(8) {
		if r.Intn(wrong) == 0 {
			row = append(row, oddEx(r, 1+r.Intn(4)))
			continue
		}
		row = append(row, someEx(r, 12, 1+r.Intn(80), 10))
	}
	return row
}

func TestRowsNeverPanic(t *testing.T) {
	r := chance()
	codes := map[int]int{}
	for range 30000 {
		a, b, k := oddRow(r, 12), oddRow(r, 12), oddNumbers[r.Intn(len(oddNumbers))]
		if r.Intn(2) == 0 {
			k = r.Intn(10) - 2
		}
		if len(a) > 0 && r.Intn(2) == 0 {
			b = append(a[1:len(a):len(a)], a[0])
		}
		right := areRight(a) && areRight(b)
		for _, call := range []rowsCall{impl.EqualEx, impl.LessEx} {
			e, code := call(a, b)
			codes[code]++
			inRange := len(a) == len(b) && len(a) <= impl.MaxBits
			if (code == impl.ErrRange) == inRange || (code == impl.ErrBad) != (inRange && !right) || (code == 0) != impl.ExOK(e) || code != 0 && !sameEx(e, impl.Ex{}) {
				t.Fatalf("EqualEx or LessEx of %s and %s: %s, code %d", brief(a), brief(b), brief(e), code)
			}
		}
		e, code := impl.AtMostEx(k, a)
		codes[code]++
		inRange := len(a) <= impl.MaxBits && -1 <= k && k <= impl.MaxBits
		if (code == impl.ErrRange) == inRange || (code == impl.ErrBad) != (inRange && !areRight(a)) || (code == 0) != impl.ExOK(e) || code != 0 && !sameEx(e, impl.Ex{}) {
			t.Fatalf("AtMostEx(%d, %s) = %s, %d", k, brief(a), brief(e), code)
		}
	}
	for _, code := range []int{0, impl.ErrRange, impl.ErrBad, impl.ErrSize} {
		if codes[code] < 500 {
			t.Errorf("codes %v: the test tells nothing", codes)
		}
	}
}

func sameWord(a, b impl.Word) bool {
	if a.Kind != b.Kind || a.N != b.N || len(a.Kids) != len(b.Kids) {
		return false
	}
	for i := range a.Kids {
		if !sameWord(a.Kids[i], b.Kids[i]) {
			return false
		}
	}
	return true
}

// roomyWord is a word with room behind the Kids of each node.
func roomyWord(w impl.Word) impl.Word {
	kids := make([]impl.Word, 0, len(w.Kids)+2)
	for _, kid := range w.Kids {
		kids = append(kids, roomyWord(kid))
	}
	return impl.Word{Kind: w.Kind, N: w.N, Kids: kids}
}

// isUntouchedWord tells that nothing stands behind the Kids of a word of roomyWord.
func isUntouchedWord(w impl.Word) bool {
	for _, behind := range w.Kids[:cap(w.Kids)][len(w.Kids):] {
		if !sameWord(behind, impl.Word{}) {
			return false
		}
	}
	for _, kid := range w.Kids {
		if !isUntouchedWord(kid) {
			return false
		}
	}
	return true
}

func TestWordsLeaveTheirArguments(t *testing.T) {
	r := chance()
	for range 2000 {
		bits := 1 + r.Intn(impl.MaxBits)
		kept := someWord(r, bits, r.Intn(5))
		if r.Intn(4) == 0 {
			kept = oddWord(r, 4)
		}
		w, numbers := roomyWord(kept), numbersOf(r.Intn(1<<12), bits)
		values := roomy(numbers)
		impl.WordOK(w, bits)
		impl.WordValue(w, bits, values)
		impl.WordBits(w, bits)
		if !sameWord(w, kept) || !isUntouchedWord(w) || !sameList(values, numbers) {
			t.Fatalf("a call of chapter 6 changes %s, %v", brief(kept), numbers)
		}
		checkRoom(t, "WordValue", values)
	}
}

// roomyRow is a row with room behind it, and behind the Kids of all its expressions.
func roomyRow(row []impl.Ex) []impl.Ex {
	return roomyEx(impl.Ex{Kids: row}).Kids
}

func TestRowsLeaveTheirArguments(t *testing.T) {
	r := chance()
	for range 3000 {
		row := oddRow(r, 20)
		a, b := roomyRow(row), roomyRow(row)
		impl.EqualEx(a, b)
		impl.LessEx(a, b)
		impl.AtMostEx(r.Intn(8)-1, a)
		impl.EqualEx(a, a)
		if len(row) > 1 {
			impl.LessEx(a[1:], a[:len(a)-1])
			impl.AtMostEx(2, a[1:])
		}
		for _, given := range [][]impl.Ex{a, b} {
			if !sameRow(given, row) || !isUntouched(impl.Ex{Kids: given}) {
				t.Fatalf("a call of chapter 6 changes %s", brief(row))
			}
		}
	}
}

// numberLists writes a number of its own to each element of all lists, and to the room behind them.
func numberLists(row []impl.Ex, next *int) {
	all := row[:cap(row)]
	for i := range all {
		*next++
		all[i].N = mark + *next
	}
	for i := range row {
		numberLists(row[i].Kids, next)
	}
}

// areNumbered tells that all elements still have the numbers that numberLists wrote.
func areNumbered(row []impl.Ex, next *int) bool {
	all := row[:cap(row)]
	for i := range all {
		*next++
		if all[i].N != mark+*next {
			return false
		}
	}
	for i := range row {
		if !areNumbered(row[i].Kids, next) {
			return false
		}
	}
	return true
}

// checkOwn spoils an answer, and looks whether two of its lists, or a list of an argument, had that memory too.
func checkOwn(t *testing.T, who string, answer []impl.Ex, given ...[]impl.Ex) {
	t.Helper()
	var kept [][]impl.Ex
	for _, row := range given {
		kept = append(kept, roomyRow(row))
	}
	written, read := 0, 0
	numberLists(answer, &written)
	if !areNumbered(answer, &read) {
		t.Fatalf("%s: two lists of one answer share memory", who)
	}
	for i, row := range given {
		if !sameRow(row, kept[i]) {
			t.Fatalf("%s: an answer shares memory with an argument", who)
		}
	}
}

func TestBitsAreNewMemory(t *testing.T) {
	r := chance()
	told := 0
	for range 2000 {
		bits := 1 + r.Intn(impl.MaxBits)
		w := someWord(r, bits, r.Intn(5))
		row, code := impl.WordBits(w, bits)
		if code != 0 {
			continue
		}
		told++
		checkOwn(t, "WordBits", row)
		checkBits(t, w, bits, slowRow(w, bits)...)
	}
	if told < 500 {
		t.Errorf("only %d words: the test tells nothing", told)
	}
}

func TestRowsAreNewMemory(t *testing.T) {
	r := chance()
	told := 0
	for range 3000 {
		var row []impl.Ex
		for range 1 + r.Intn(impl.MaxBits) {
			row = append(row, someEx(r, 12, 1+r.Intn(40), 10))
		}
		// One list for both, and expressions that have lists in common.
		shared := append([]impl.Ex(nil), row...)
		shared[0] = row[len(row)-1]
		for _, b := range [][]impl.Ex{row, shared} {
			for _, call := range []rowsCall{impl.EqualEx, impl.LessEx} {
				if e, code := call(row, b); code == 0 {
					told++
					checkOwn(t, "EqualEx or LessEx", []impl.Ex{e}, row, b)
				}
			}
		}
		for k := -1; k <= impl.MaxBits; k++ {
			if e, code := impl.AtMostEx(k, shared); code == 0 {
				told++
				checkOwn(t, "AtMostEx", []impl.Ex{e}, row, shared)
			}
		}
	}
	if told < 5000 {
		t.Errorf("only %d answers: the test tells nothing", told)
	}
}

// wordCalls writes down all that a word, and the bits of two, are answered.
func wordCalls(v, w impl.Word, bits int, values []int) string {
	var b strings.Builder
	tell := func(code int, told ...any) { b.WriteString(fmt.Sprintln(append(told, impl.CodeWord(code))...)) }
	number, code := impl.WordValue(v, bits, values)
	tell(code, impl.WordOK(v, bits), impl.WordOK(w, bits), number)
	p, code := impl.WordBits(v, bits)
	tell(code, p)
	q, code := impl.WordBits(w, bits)
	tell(code, q)
	e, code := impl.EqualEx(p, q)
	tell(code, e)
	e, code = impl.LessEx(p, q)
	tell(code, e)
	e, code = impl.AtMostEx(1, p)
	tell(code, e)
	return b.String()
}

func TestNothingIsKeptOfWords(t *testing.T) {
	type given struct {
		v, w   impl.Word
		bits   int
		values []int
	}
	r := chance()
	var list []given
	var answers []string
	for range 400 {
		bits := 1 + r.Intn(impl.MaxBits)
		g := given{someWord(r, bits, r.Intn(3)), someWord(r, bits, r.Intn(2)), bits, numbersOf(r.Intn(1<<12), bits)}
		if r.Intn(6) == 0 {
			g.v = oddWord(r, 3)
		}
		list = append(list, g)
		answers = append(answers, wordCalls(g.v, g.w, g.bits, g.values))
	}
	for _, i := range r.Perm(len(list)) {
		g := list[i]
		if got := wordCalls(g.v, g.w, g.bits, g.values); got != answers[i] {
			t.Fatalf("%s, %s were answered %q, then %q", brief(g.v), brief(g.w), brief(answers[i]), brief(got))
		}
	}
}

func TestEmptyIsNilInWords(t *testing.T) {
	a, b := wordVar(1), impl.Word{Kind: impl.WdVar, N: 1, Kids: []impl.Word{}}
	if wordCalls(a, plus(a, a), 3, numbersOf(77, 3)) != wordCalls(b, plus(a, b), 3, numbersOf(77, 3)) {
		t.Error("empty Kids and nil are answered otherwise")
	}
	x, y := variable(1), impl.Ex{Kind: impl.ExVar, N: 1, Kids: []impl.Ex{}}
	checkRows(t, "EqualEx", impl.EqualEx, []impl.Ex{x}, []impl.Ex{y}, and(constant(1), not(xor(x, x))))
	checkRows(t, "LessEx", impl.LessEx, []impl.Ex{y}, []impl.Ex{x}, or(and(not(x), x), and(not(xor(x, x)), constant(0))))
	checkAtMost(t, 0, []impl.Ex{y}, ite(x, constant(0), constant(1)))
	for _, values := range [][]int{nil, {}} {
		if number, code := impl.WordValue(a, 3, values); code != impl.ErrRange || number != 0 {
			t.Error("WordValue of no values", number, code)
		}
	}
}
