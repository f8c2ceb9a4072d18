package impl

import (
	"cmp"
	"slices"
	"strconv"
	"strings"
)

const (
	MaxVars    = 40
	MaxClauses = 300
	MaxWidth   = 12
)

type Cnf struct {
	Vars    int
	Clauses [][]int
}

// word is a word of a text and the place of its first byte there.
type word struct {
	text string
	at   int
}

// CnfOK tells whether f is right.
func CnfOK(f Cnf) bool {
	if f.Vars < 0 || f.Vars > MaxVars || len(f.Clauses) > MaxClauses {
		return false
	}
	for _, clause := range f.Clauses {
		if !isClause(clause, f.Vars) {
			return false
		}
	}
	return true
}

// EvalCnf tells whether values are a model of f.
func EvalCnf(f Cnf, values []bool) (bool, int) {
	if len(values) > MaxList {
		return false, ErrLong
	}
	if !CnfOK(f) {
		return false, ErrBad
	}
	if len(values) != f.Vars {
		return false, ErrRange
	}
	for _, clause := range f.Clauses {
		if !clauseHolds(clause, values) {
			return false, OK
		}
	}
	return true, OK
}

// DimacsText answers the text of f.
func DimacsText(f Cnf) (string, int) {
	if !CnfOK(f) {
		return "", ErrBad
	}
	var b strings.Builder
	b.WriteString("p cnf " + strconv.Itoa(f.Vars) + " " + strconv.Itoa(len(f.Clauses)) + "\n")
	for _, clause := range f.Clauses {
		b.WriteString(clauseLine(clause))
	}
	return b.String(), OK
}

// ReadDimacs answers the formula of a text; with a code, the place of the fault.
func ReadDimacs(t string) (Cnf, int, int) {
	if len(t) > MaxText {
		return Cnf{}, ErrLong, 0
	}
	lines := spokenLines(t)
	if len(lines) == 0 {
		return Cnf{}, ErrSyntax, len(t)
	}
	vars, count, code, at := readHead(lines[0])
	if code != OK {
		return Cnf{}, code, at
	}
	clauses, code, at := readClauses(slices.Concat(lines[1:]...), vars, count, len(t))
	if code != OK {
		return Cnf{}, code, at
	}
	return Cnf{Vars: vars, Clauses: clauses}, OK, 0
}

// NormalCnf answers f in order.
func NormalCnf(f Cnf) (Cnf, int) {
	if !CnfOK(f) {
		return Cnf{}, ErrBad
	}
	var clauses [][]int
	for _, clause := range f.Clauses {
		ordered := inOrder(clause)
		if !hasOpposites(ordered) {
			clauses = append(clauses, ordered)
		}
	}
	slices.SortFunc(clauses, compareClauses)
	return Cnf{Vars: f.Vars, Clauses: slices.CompactFunc(clauses, slices.Equal)}, OK
}

// Resolve answers what a with v and b with -v resolve to.
func Resolve(a, b []int, v int) ([]int, int) {
	if len(a) > MaxList || len(b) > MaxList {
		return nil, ErrLong
	}
	if !isClause(a, MaxVars) || !isClause(b, MaxVars) || v < 1 || v > MaxVars {
		return nil, ErrBad
	}
	if !slices.Contains(a, v) || !slices.Contains(b, -v) {
		return nil, ErrNone
	}
	result := inOrder(slices.Concat(without(a, v), without(b, -v)))
	if hasOpposites(result) {
		return nil, ErrState
	}
	return result, OK
}

// clauseLine is a clause's line in the texts of formulas and proofs.
func clauseLine(clause []int) string {
	var b strings.Builder
	for _, literal := range clause {
		b.WriteString(strconv.Itoa(literal) + " ")
	}
	return b.String() + "0\n"
}

// isLiteral compares with both bounds, because the opposite of the least integer would wrap.
func isLiteral(n, vars int) bool {
	return n != 0 && -vars <= n && n <= vars
}

func isClause(clause []int, vars int) bool {
	if len(clause) > MaxWidth {
		return false
	}
	for _, literal := range clause {
		if !isLiteral(literal, vars) {
			return false
		}
	}
	return true
}

func clauseHolds(clause []int, values []bool) bool {
	for _, literal := range clause {
		if literal > 0 && values[literal-1] || literal < 0 && !values[-literal-1] {
			return true
		}
	}
	return false
}

// literalRank rises in the order of literals: by variables, the plain one ahead of its opposite.
func literalRank(literal int) int {
	if literal < 0 {
		return -2*literal + 1
	}
	return 2 * literal
}

func compareLiterals(a, b int) int {
	return cmp.Compare(literalRank(a), literalRank(b))
}

func compareClauses(a, b []int) int {
	return slices.CompareFunc(a, b, compareLiterals)
}

// inOrder answers the literals in order, each once, in memory of their own.
func inOrder(literals []int) []int {
	ordered := append([]int(nil), literals...)
	slices.SortFunc(ordered, compareLiterals)
	return slices.Compact(ordered)
}

// hasOpposites needs literals in order: there a variable and its opposite are side by side.
func hasOpposites(ordered []int) bool {
	for i := 1; i < len(ordered); i++ {
		if ordered[i-1] == -ordered[i] {
			return true
		}
	}
	return false
}

func without(clause []int, literal int) []int {
	var rest []int
	for _, l := range clause {
		if l != literal {
			rest = append(rest, l)
		}
	}
	return rest
}

func isBlank(b byte) bool {
	return b == ' ' || b == '\t' || b == '\r'
}

// wordsOf answers the words of a line that begins at a place of its text.
func wordsOf(line string, place int) []word {
	var words []word
	start := 0
	for i := 0; i <= len(line); i++ {
		if i < len(line) && !isBlank(line[i]) {
			continue
		}
		if start < i {
			words = append(words, word{text: line[start:i], at: place + start})
		}
		start = i + 1
	}
	return words
}

// spokenLines answers the words of each line that says something.
func spokenLines(t string) [][]word {
	var lines [][]word
	place := 0
	for _, line := range strings.Split(t, "\n") {
		words := wordsOf(line, place)
		if len(words) > 0 && words[0].text != "c" {
			lines = append(lines, words)
		}
		place += len(line) + 1
	}
	return lines
}

// readHead answers VARS and CLAUSES of a first line, which has a word; with a code, the place of the fault.
func readHead(line []word) (int, int, int, int) {
	if len(line) != 4 || line[0].text != "p" || line[1].text != "cnf" {
		return 0, 0, ErrSyntax, line[0].at
	}
	vars, varsOK := numberOf(line[2].text)
	count, countOK := numberOf(line[3].text)
	switch {
	case !varsOK || vars < 0:
		return 0, 0, ErrSyntax, line[2].at
	case !countOK || count < 0:
		return 0, 0, ErrSyntax, line[3].at
	case vars > MaxVars:
		return 0, 0, ErrRange, line[2].at
	case count > MaxClauses:
		return 0, 0, ErrRange, line[3].at
	}
	return vars, count, OK, 0
}

// readClauses answers the clauses of the words behind a first line; with a code, the place of the fault, which is end where something is missing.
func readClauses(words []word, vars, count, end int) ([][]int, int, int) {
	var clauses [][]int
	var clause []int
each:
	for _, w := range words {
		var code int
		n, isNumber := numberOf(w.text)
		switch {
		case len(clauses) == count:
			code = ErrMany
		case !isNumber:
			code = ErrSyntax
		case n == 0:
			clauses, clause = append(clauses, clause), nil
			continue each
		case !isLiteral(n, vars):
			code = ErrRange
		case len(clause) == MaxWidth:
			code = ErrSize
		default:
			clause = append(clause, n)
			continue each
		}
		return nil, code, w.at
	}
	if len(clauses) < count {
		return nil, ErrSyntax, end
	}
	return clauses, OK, 0
}
