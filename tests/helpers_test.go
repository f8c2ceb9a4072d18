package tests

import (
	"fmt"
	"math/rand"
	"testing"

	"loop.example/g00159/impl"
)

// mark fills what nobody may write to.
const mark = 1 << 40

// chance is the same run of numbers in every test that asks for it.
func chance() *rand.Rand {
	return rand.New(rand.NewSource(1))
}

func someLiteral(r *rand.Rand, vars int) int {
	literal := 1 + r.Intn(vars)
	if r.Intn(2) == 0 {
		return -literal
	}
	return literal
}

func someClause(r *rand.Rand, vars, width int) []int {
	if vars == 0 {
		return nil
	}
	var clause []int
	for range r.Intn(width + 1) {
		clause = append(clause, someLiteral(r, vars))
	}
	return clause
}

func someCnf(r *rand.Rand, vars, clauses, width int) impl.Cnf {
	f := impl.Cnf{Vars: r.Intn(vars + 1)}
	for range r.Intn(clauses + 1) {
		f.Clauses = append(f.Clauses, someClause(r, f.Vars, width))
	}
	return f
}

// repeated is a list of so many of one number.
func repeated(number, times int) []int {
	list := make([]int, times)
	for i := range list {
		list[i] = number
	}
	return list
}

// repeatedClause is a list of so many clauses, alike.
func repeatedClause(clause []int, times int) [][]int {
	list := make([][]int, times)
	for i := range list {
		list[i] = clause
	}
	return list
}

// valuesOf reads the values of variables 1, 2, .. from the bits of a number.
func valuesOf(number, vars int) []bool {
	values := make([]bool, vars)
	for i := range values {
		values[i] = number>>i&1 == 1
	}
	return values
}

// clauseTrue is told apart from the program, so that both are held against each other.
func clauseTrue(clause []int, values []bool) bool {
	for _, literal := range clause {
		if literal > 0 && values[literal-1] {
			return true
		}
		if literal < 0 && !values[-literal-1] {
			return true
		}
	}
	return false
}

func cnfTrue(f impl.Cnf, values []bool) bool {
	for _, clause := range f.Clauses {
		if !clauseTrue(clause, values) {
			return false
		}
	}
	return true
}

func sameList(a, b []int) bool {
	if len(a) != len(b) {
		return false
	}
	for i := range a {
		if a[i] != b[i] {
			return false
		}
	}
	return true
}

// sameCnf holds an empty list and nil for the same, as the document does.
func sameCnf(f, g impl.Cnf) bool {
	if f.Vars != g.Vars || len(f.Clauses) != len(g.Clauses) {
		return false
	}
	for i := range f.Clauses {
		if !sameList(f.Clauses[i], g.Clauses[i]) {
			return false
		}
	}
	return true
}

func isZeroCnf(f impl.Cnf) bool {
	return f.Vars == 0 && len(f.Clauses) == 0
}

func copyOf(f impl.Cnf) impl.Cnf {
	g := impl.Cnf{Vars: f.Vars}
	for _, clause := range f.Clauses {
		g.Clauses = append(g.Clauses, append([]int(nil), clause...))
	}
	return g
}

// roomy gives a list room behind its end, filled with marks that nobody may write over.
func roomy(list []int) []int {
	all := append(append([]int(nil), list...), repeated(mark, 8)...)
	return all[:len(list)]
}

func roomyClauses(clauses [][]int) [][]int {
	all := make([][]int, 0, len(clauses)+4)
	for _, clause := range clauses {
		all = append(all, roomy(clause))
	}
	return all
}

// checkRoom looks behind the end of a list of roomy.
func checkRoom(t *testing.T, who string, list []int) {
	t.Helper()
	if !sameList(list[:len(list)+8][len(list):], repeated(mark, 8)) {
		t.Errorf("%s writes behind the end of an argument", who)
	}
}

// checkClauseRoom looks behind the ends of lists of roomyClauses.
func checkClauseRoom(t *testing.T, who string, clauses [][]int) {
	t.Helper()
	for _, clause := range clauses {
		checkRoom(t, who, clause)
	}
	for _, clause := range clauses[:cap(clauses)][len(clauses):] {
		if clause != nil {
			t.Errorf("%s writes behind the end of an argument", who)
		}
	}
}

// overwrite writes to all that a list holds, and to the room behind it.
func overwrite(list []int) {
	all := list[:cap(list)]
	for i := range all {
		all[i] = mark
	}
}

// brief tells a value that may be long, as far as one reads it.
func brief(value any) string {
	const most = 300
	text := fmt.Sprint(value)
	if len(text) > most {
		return text[:most] + " .."
	}
	return text
}
