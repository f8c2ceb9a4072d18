package tests

import (
	"math/rand"
	"regexp"
	"slices"
	"strconv"
	"strings"
	"testing"

	"loop.example/g00159/impl"
)

// Tests of promise 7: texts that are at fault, and which fault is told.

// baseText has a, b and c in a row and d apart; an origin, and as many externals as there may be.
const baseText = "router a\nrouter b\nrouter c\nrouter d\nlink a b\nlink c b cost 3\norigin a\nexternal c\nexternal b\n"

// baseLines is how many lines baseText has.
const baseLines = 9

type lineFault struct {
	line string
	code int
}

// checkLines adds lines to a text one at a time, and looks for the code and the number of the line.
func checkLines(t *testing.T, text string, rows []lineFault) {
	t.Helper()
	ahead := strings.Count(text, "\n")
	for _, row := range rows {
		// What comes behind the line at fault, and whether the line ends, tells nothing.
		for _, behind := range []string{"", "\n", "\nx\n", "\nrouter a\n"} {
			n, code, line := impl.ReadNet(text + row.line + behind)
			if code != row.code || line != ahead+1 || !isZeroNet(n) {
				t.Errorf("ReadNet of %q behind %d lines: %v, code %d, line %d, not code %d", row.line, ahead, n, code, line, row.code)
				break
			}
		}
	}
}

// syntaxOf makes a row of ErrSyntax of each line.
func syntaxOf(lines ...string) []lineFault {
	var rows []lineFault
	for _, line := range lines {
		rows = append(rows, lineFault{line, impl.ErrSyntax})
	}
	return rows
}

func TestNoneOfTheseLines(t *testing.T) {
	checkReadNetOK(t, baseText)
	checkLines(t, baseText, syntaxOf(
		"go", "Router e", "ROUTER e", "routers e", "rout e", "a", "verify reach a", "show", "0", "/ x", "x#", "-", "import", "\t", "\r", "\x00", "\xff", "\trouter e", "router\te", "\t# x",
		"router", "router e f", "router a b", "router e router f", "link", "link a", "link a d c", "link a d cost", "link a d cost 1 1", "link a d 5", "link a d price 5", "link a d Cost 5",
		"link a cost 5 d", "link a to d", "link a d cost 1 #", "origin", "origin b c", "origin b 1", "external", "external a b", "external a cost 1",
		"import a", "import a from", "import a from b", "import a b deny", "import a to b deny", "import from a b deny", "import a From b deny", "import a from b Deny", "import a from b accept", "import a from b if",
		"import a from b if mark", "import a from b if plain", "import a from b if mark if plain deny", "import a from b mark if plain", "import a from b deny deny", "import a from b deny 5", "import a from b mark 0",
		"import a from b clear 1", "import a from b pref", "import a from b pref 5 5", "import a from b pref pref", "import a from b if deny", "import a from b if always deny", "import a from b if clear deny",
		"import a from b if go deny", "import a from b if mark pref", "import a from b if mark pref 5 deny", "import a from b if  Mark deny", "import a from b if if deny", "import a from b if plain plain", "import a from b plain",
		"import a from b 5", "import a from b from", "filter", "filter a", "filter a to b", "filter a to b port", "filter a to b port 1", "filter a to b port 1 2 3", "filter a to b 1 2", "filter a b port 1 2",
		"filter a from b port 1 2", "filter a to b ports 1 2", "filter a to b port 1-2", "filter a to b Port 1 2", "filter to a b port 1 2", "filter a to b port 1 2 #", "filter a to b port 1 to 2",
		"router e\r", "link a d\r", "link a\tb", "origin b\t", "filter a to b port 1\t2", "router\u00a0e", "link a d cost 1\r",
	))
}

func checkReadNetOK(t *testing.T, text string) {
	t.Helper()
	if n, code, line := impl.ReadNet(text); code != 0 || line != 0 || !impl.NetOK(n) {
		t.Fatalf("ReadNet(%q) = %v, %d, %d", text, n, code, line)
	}
}

func TestLinesWithoutNumbers(t *testing.T) {
	for _, number := range []string{"x", "-", "--1", "+1", "01", "00", "-0", "-01", "1x", "x1", "1.0", "0x1", "1_0", "1e1", "9999999999999999999", "-1000000000000000000", "1000000000000000000", "١", "1\x00", "port"} {
		checkLines(t, baseText, syntaxOf(
			"link a d cost "+number, "import a from b pref "+number, "import a from b if plain pref "+number,
			"filter a to b port "+number+" 3", "filter a to b port 3 "+number, "filter a to b port "+number+" "+number))
	}
}

func TestLinesWithoutNames(t *testing.T) {
	for _, name := range []string{"9", "9a", "a-b", "a.", "-", "é", "a\t", "a\r", "\x00", "\xff", "#", "#a", "0", strings.Repeat("x", impl.MaxName+1), strings.Repeat("x", 1000)} {
		checkLines(t, baseText, syntaxOf(
			"router "+name, "link "+name+" d", "link d "+name, "link "+name+" d cost 5", "origin "+name, "external "+name,
			"import "+name+" from b deny", "import a from "+name+" deny", "filter "+name+" to b port 1 2", "filter a to "+name+" port 1 2"))
	}
}

func TestRoutersThatAreNotTold(t *testing.T) {
	for _, name := range []string{"q", "A", "aa", "_", "router", "cost", "from", "e9", strings.Repeat("x", impl.MaxName)} {
		var rows []lineFault
		for _, line := range []string{
			"link @ d", "link d @", "link d @ cost 5", "link @ @", "origin @", "external @", "import @ from b deny", "import a from @ deny", "import @ from @ if mark pref 7", "filter @ to b port 1 2", "filter a to @ port 1 2", "filter @ to @ port 1 2",
		} {
			rows = append(rows, lineFault{strings.ReplaceAll(line, "@", name), impl.ErrName})
		}
		checkLines(t, baseText, rows)
	}
	// A name that is told later is not told ahead.
	for _, line := range []string{"link a b", "link b a", "origin b", "external b", "import a from b deny", "import b from a deny", "filter a to b port 1 2", "filter b to a port 1 2"} {
		if _, code, at := impl.ReadNet("router a\n" + line + "\nrouter b\n"); code != impl.ErrName || at != 2 {
			t.Errorf("ReadNet of %q ahead of router b: code %d, line %d", line, code, at)
		}
	}
	checkLines(t, "", []lineFault{{"origin a", impl.ErrName}, {"link a b", impl.ErrName}, {"external a", impl.ErrName}, {"import a from b deny", impl.ErrName}, {"filter a to b port 1 2", impl.ErrName}})
}

func TestNumbersOutOfBounds(t *testing.T) {
	var rows []lineFault
	add := func(lines ...string) {
		for _, line := range lines {
			rows = append(rows, lineFault{line, impl.ErrRange})
		}
	}
	for _, number := range []string{"-1", "-100", "1001", "999999999999999999", "-999999999999999999", "4294967297"} {
		add("link a d cost "+number, "import a from b pref "+number, "import a from b if mark pref "+number, "filter a to b port "+number+" 3", "filter a to b port 3 "+number, "filter a to b port "+number+" "+number)
	}
	add("link a d cost 0", "link a d cost 101", "filter a to b port 0 16", "filter a to b port 16 16", "filter a to b port 15 16", "filter a to b port 16 15", "filter a to b port 16 0",
		"filter a to b port 1 0", "filter a to b port 15 14", "filter a to b port 15 0", "filter a to b port -1 0", "filter a to b port -1 -1", "filter a to b port 5 4")
	checkLines(t, baseText, rows)
	for _, line := range []string{
		"link a d cost 1", "link a d cost 100", "import a from b pref 0", "import a from b pref 1000", "import a from b if plain pref 1000",
		"filter a to b port 0 0", "filter a to b port 15 15", "filter a to b port 0 15", "filter a to b port 7 7", "filter a to b port 14 15",
	} {
		checkReadNetOK(t, baseText+line)
	}
}

func TestOneMoreThanThereMayBe(t *testing.T) {
	imports := strings.Repeat("import a from b deny\n", impl.MaxImports)
	filters := strings.Repeat("filter a to b port 1 2\n", impl.MaxFilters)
	checkReadNetOK(t, baseText+imports+filters)
	checkLines(t, baseText+imports, []lineFault{{"import a from b deny", impl.ErrMany}, {"import c from b if mark pref 3", impl.ErrMany}})
	checkLines(t, baseText+filters, []lineFault{{"filter a to b port 1 2", impl.ErrMany}, {"filter b to c port 0 15", impl.ErrMany}})
	checkLines(t, baseText, []lineFault{{"external a", impl.ErrMany}, {"external d", impl.ErrMany}, {"router e", impl.ErrMany}, {"router A", impl.ErrMany}, {"router link", impl.ErrMany}})
	// As many origins and links as routers allow: one more would be there already.
	checkReadNetOK(t, baseText+"origin d\norigin b\norigin c\nlink d a\nlink d b\nlink a c\nlink c d\n")
	checkLines(t, baseText+"origin d\norigin b\norigin c\n", []lineFault{{"origin d", impl.ErrTwice}, {"origin a", impl.ErrTwice}, {"origin e", impl.ErrName}})
	checkLines(t, baseText+"link d a\nlink d b\nlink a c\nlink c d\n", []lineFault{{"link d c", impl.ErrTwice}, {"link a a", impl.ErrLoop}, {"link b c cost 0", impl.ErrRange}})
}

func TestWhatIsThereAlready(t *testing.T) {
	checkLines(t, baseText, []lineFault{
		{"router a", impl.ErrTwice}, {"router d", impl.ErrTwice}, {"link a b", impl.ErrTwice}, {"link b a", impl.ErrTwice}, {"link b c", impl.ErrTwice}, {"link c b cost 3", impl.ErrTwice}, {"link c b cost 4", impl.ErrTwice},
		{"origin a", impl.ErrTwice}, {"external b", impl.ErrTwice}, {"external c", impl.ErrTwice},
	})
	// An origin is no external, and a name is no link.
	checkReadNetOK(t, "router a\norigin a\nexternal a\n")
}

func TestLoopsAndNoLinks(t *testing.T) {
	checkLines(t, baseText, []lineFault{
		{"link a a", impl.ErrLoop}, {"link d d cost 5", impl.ErrLoop},
		{"import a from c deny", impl.ErrNone}, {"import c from a if mark pref 5", impl.ErrNone}, {"import d from a mark", impl.ErrNone}, {"import a from a deny", impl.ErrNone}, {"import b from b clear", impl.ErrNone},
		{"filter a to c port 1 2", impl.ErrNone}, {"filter c to a port 1 2", impl.ErrNone}, {"filter b to d port 1 2", impl.ErrNone}, {"filter a to a port 1 2", impl.ErrNone},
	})
	// A line is held against the lines ahead of it: a link that comes later is not there yet.
	checkLines(t, "router a\nrouter b\n", []lineFault{{"import a from b deny\nlink a b", impl.ErrNone}, {"filter b to a port 1 2\nlink a b", impl.ErrNone}})
	for _, link := range []string{"link a b", "link b a"} {
		checkReadNetOK(t, "router a\nrouter b\n"+link+"\nimport a from b deny\nimport b from a deny\nfilter a to b port 1 2\nfilter b to a port 1 2\n")
	}
}

func TestNoRouter(t *testing.T) {
	for _, text := range []string{"", "\n", "\n\n", " ", "# nothing\n", "#router a", "  #\n  \n"} {
		if n, code, line := impl.ReadNet(text); code != impl.ErrNone || line != 0 || !isZeroNet(n) {
			t.Errorf("ReadNet(%q) = %v, %d, %d", text, n, code, line)
		}
	}
	// A line at fault is told ahead of that.
	checkLines(t, "# nothing\n\n", syntaxOf("go", "router 9", "router"))
}

// TestWhichFaultOfALine has lines with two faults and more.
func TestWhichFaultOfALine(t *testing.T) {
	checkLines(t, baseText, []lineFault{
		// What is none of these lines has no names.
		{"link q a cost", impl.ErrSyntax}, {"link q q q", impl.ErrSyntax}, {"link q a price 5", impl.ErrSyntax}, {"origin q q", impl.ErrSyntax}, {"external q 5", impl.ErrSyntax}, {"import q to a deny", impl.ErrSyntax},
		{"import q from b", impl.ErrSyntax}, {"filter q to a port 1", impl.ErrSyntax}, {"filter q to a prt 1 2", impl.ErrSyntax}, {"filter q tu a port 1 2", impl.ErrSyntax}, {"go q", impl.ErrSyntax}, {"router a b", impl.ErrSyntax},
		// Names from the left.
		{"link q 9", impl.ErrName}, {"link 9 q", impl.ErrSyntax}, {"import q from 9 deny", impl.ErrName}, {"import 9 from q deny", impl.ErrSyntax}, {"filter q to 9 port 1 2", impl.ErrName}, {"filter 9 to q port 1 2", impl.ErrSyntax},
		{"link a 9", impl.ErrSyntax}, {"link a q", impl.ErrName}, {"link cost 5", impl.ErrName},
		// Names ahead of numbers, and of what an import does.
		{"link q a cost x", impl.ErrName}, {"link a q cost x", impl.ErrName}, {"link a q cost 0", impl.ErrName}, {"link 9 a cost 0", impl.ErrSyntax}, {"link a 9 cost 101", impl.ErrSyntax},
		{"import q from b go", impl.ErrName}, {"import a from q go", impl.ErrName}, {"import a from q if go deny", impl.ErrName}, {"import q from b pref x", impl.ErrName}, {"import q from b pref 1001", impl.ErrName},
		{"import q from b deny deny", impl.ErrName}, {"import q from b pref", impl.ErrName}, {"import q from b if mark", impl.ErrName}, {"import 9 from b pref 1001", impl.ErrSyntax}, {"import a from 9 pref 1001", impl.ErrSyntax},
		{"filter q to b port x 2", impl.ErrName}, {"filter a to q port 5 4", impl.ErrName}, {"filter q to b port 16 x", impl.ErrName}, {"filter a to 9 port 5 4", impl.ErrSyntax},
		// Numbers that are none ahead of numbers out of bounds.
		{"filter a to b port 16 x", impl.ErrSyntax}, {"filter a to b port x 16", impl.ErrSyntax}, {"filter a to b port -1 01", impl.ErrSyntax}, {"import a from b if go pref 1001", impl.ErrSyntax}, {"import a from b pref 1001 x", impl.ErrSyntax},
		// Numbers, and what an import does, ahead of the others.
		{"link a a cost x", impl.ErrSyntax}, {"link a a cost 0", impl.ErrRange}, {"link a b cost x", impl.ErrSyntax}, {"link b a cost 101", impl.ErrRange},
		{"import a from c go", impl.ErrSyntax}, {"import a from c pref x", impl.ErrSyntax}, {"import a from c pref 1001", impl.ErrRange}, {"import a from a if go deny", impl.ErrSyntax}, {"import a from a pref -1", impl.ErrRange},
		{"filter a to c port x 2", impl.ErrSyntax}, {"filter a to c port 5 4", impl.ErrRange}, {"filter a to a port 0 16", impl.ErrRange},
		// Of a router ErrSyntax, ErrTwice, ErrMany: here are as many as there may be.
		{"router 9", impl.ErrSyntax}, {"router a", impl.ErrTwice}, {"router e", impl.ErrMany}, {"router " + strings.Repeat("a", impl.MaxName+1), impl.ErrSyntax},
		// ErrTwice ahead of ErrMany.
		{"external b", impl.ErrTwice}, {"external c", impl.ErrTwice}, {"external d", impl.ErrMany}, {"external q", impl.ErrName}, {"external 9", impl.ErrSyntax},
	})
	full := baseText + strings.Repeat("import a from b deny\n", impl.MaxImports) + strings.Repeat("filter a to b port 1 2\n", impl.MaxFilters)
	checkLines(t, full, []lineFault{
		{"import a from b", impl.ErrSyntax}, {"import a from b go", impl.ErrSyntax}, {"import q from b deny", impl.ErrName}, {"import a from b pref 1001", impl.ErrRange}, {"import a from c deny", impl.ErrNone}, {"import a from a deny", impl.ErrNone},
		{"import a from b mark", impl.ErrMany}, {"filter a to b port 1", impl.ErrSyntax}, {"filter a to q port 1 2", impl.ErrName}, {"filter a to b port 1 x", impl.ErrSyntax}, {"filter a to b port 2 1", impl.ErrRange},
		{"filter d to b port 1 2", impl.ErrNone}, {"filter b to a port 1 2", impl.ErrMany},
	})
}

// TestWhichLine has texts of several lines at fault: the first of them counts, whatever its code is.
func TestWhichLine(t *testing.T) {
	wrong := []lineFault{{"go", impl.ErrSyntax}, {"origin q", impl.ErrName}, {"link a d cost 0", impl.ErrRange}, {"router a", impl.ErrTwice}, {"link a a", impl.ErrLoop}, {"import a from c deny", impl.ErrNone}, {"external d", impl.ErrMany}}
	for _, first := range wrong {
		for _, second := range wrong {
			for _, between := range []string{"\n", "\n\n# x\n", "\nlink a d\n"} {
				if n, code, line := impl.ReadNet(baseText + "\n  \n#\n" + first.line + between + second.line + "\n"); code != first.code || line != baseLines+4 || !isZeroNet(n) {
					t.Errorf("ReadNet of %q ahead of %q: %v, code %d, line %d", first.line, second.line, n, code, line)
				}
			}
		}
	}
	// Any line of a text may be the one at fault.
	lines := strings.SplitAfter(wholeText(), "\n")
	for i := range lines {
		text := strings.Join(lines[:i], "") + "x\n" + strings.Join(lines[i:], "")
		if _, code, line := impl.ReadNet(text); code != impl.ErrSyntax || line != i+1 {
			t.Errorf("ReadNet with a wrong line %d: code %d, line %d", i+1, code, line)
		}
	}
}

var (
	slowForms = []*regexp.Regexp{
		regexp.MustCompile(`^(router) ([^ ]+)$`), regexp.MustCompile(`^(link) ([^ ]+) ([^ ]+)( cost ([^ ]+))?$`), regexp.MustCompile(`^(origin|external) ([^ ]+)$`),
		regexp.MustCompile(`^(import) ([^ ]+) from ([^ ]+) (.+)$`), regexp.MustCompile(`^(filter) ([^ ]+) to ([^ ]+) port ([^ ]+) ([^ ]+)$`),
	}
	slowDeed    = regexp.MustCompile(`^(if (mark|plain) )?(deny|pref ([^ ]+)|mark|clear)$`)
	slowNumeral = regexp.MustCompile(`^(0|-?[1-9][0-9]{0,17})$`)
	slowBlanks  = regexp.MustCompile(` +`)
	slowName    = regexp.MustCompile(`^[a-zA-Z_][a-zA-Z_0-9]{0,39}$`)
)

// The order of the faults of a line; of each only the least is told.
const (
	rankForm = iota
	rankLeft
	rankRight
	rankNumber
	rankBounds
	rankLoop
	rankTwice
	rankNone
	rankMany
	noFault
)

// slowLine keeps a code for each rank of fault that a line has.
type slowLine struct {
	n     *impl.Net
	codes [noFault]int
}

func (s *slowLine) name(rank int, name string) int {
	number := slices.Index(s.n.Routers, name)
	if !slowName.MatchString(name) {
		s.codes[rank] = impl.ErrSyntax
	} else if number < 0 {
		s.codes[rank] = impl.ErrName
	}
	return number
}

func (s *slowLine) number(text string, low, high int) int {
	if !slowNumeral.MatchString(text) {
		s.codes[rankNumber] = impl.ErrSyntax
	}
	number, _ := strconv.Atoi(text)
	if number < low || number > high {
		s.codes[rankBounds] = impl.ErrRange
	}
	return number
}

func (s *slowLine) fault(rank, code int, so bool) {
	if so {
		s.codes[rank] = code
	}
}

func (s *slowLine) isJoined(a, b int) bool {
	return slices.ContainsFunc(s.n.Links, func(l impl.Link) bool { return l.A == a && l.B == b || l.A == b && l.B == a })
}

// add finds all faults of a line, then tells the first, or changes the network.
func (s *slowLine) add(line string) int {
	var w []string
	for _, form := range slowForms {
		if found := form.FindStringSubmatch(line); found != nil {
			w = found[1:]
		}
	}
	if w == nil {
		return impl.ErrSyntax
	}
	next := copyOfNet(*s.n)
	switch w[0] {
	case "router":
		s.fault(rankLeft, impl.ErrSyntax, !slowName.MatchString(w[1]))
		s.fault(rankTwice, impl.ErrTwice, slices.Contains(s.n.Routers, w[1]))
		next.Routers = append(next.Routers, w[1])
		s.fault(rankMany, impl.ErrMany, len(next.Routers) > 4)
	case "link":
		l := impl.Link{A: s.name(rankLeft, w[1]), B: s.name(rankRight, w[2]), Cost: 1}
		if w[3] != "" {
			l.Cost = s.number(w[4], 1, 100)
		}
		s.fault(rankLoop, impl.ErrLoop, l.A == l.B)
		s.fault(rankTwice, impl.ErrTwice, s.isJoined(l.A, l.B))
		next.Links = append(next.Links, l)
		s.fault(rankMany, impl.ErrMany, len(next.Links) > 6)
	case "origin", "external":
		list, most := &next.Origins, 4
		if w[0] == "external" {
			list, most = &next.Externals, 2
		}
		router := s.name(rankLeft, w[1])
		s.fault(rankTwice, impl.ErrTwice, slices.Contains(*list, router))
		*list = append(*list, router)
		slices.Sort(*list)
		s.fault(rankMany, impl.ErrMany, len(*list) > most)
	case "import":
		s.addImport(&next, w)
	case "filter":
		f := impl.Filter{At: s.name(rankLeft, w[1]), To: s.name(rankRight, w[2]), Low: s.number(w[3], 0, 15), High: s.number(w[4], 0, 15)}
		s.fault(rankBounds, impl.ErrRange, f.High < f.Low)
		s.fault(rankNone, impl.ErrNone, !s.isJoined(f.At, f.To))
		next.Filters = append(next.Filters, f)
		s.fault(rankMany, impl.ErrMany, len(next.Filters) > 6)
	}
	for _, code := range s.codes {
		if code != 0 {
			return code
		}
	}
	*s.n = next
	return 0
}

func (s *slowLine) addImport(next *impl.Net, w []string) {
	i := impl.Import{At: s.name(rankLeft, w[1]), From: s.name(rankRight, w[2])}
	if does := slowDeed.FindStringSubmatch(w[3]); does == nil {
		s.codes[rankNumber] = impl.ErrSyntax
	} else {
		i.When = map[string]int{"": 0, "mark": 1, "plain": 2}[does[2]]
		i.Do = map[string]int{"deny": 1, "mark": 3, "clear": 4}[does[3]]
		if does[4] != "" {
			i.Do, i.N = 2, s.number(does[4], 0, 1000)
		}
	}
	s.fault(rankNone, impl.ErrNone, !s.isJoined(i.At, i.From))
	next.Imports = append(next.Imports, i)
	s.fault(rankMany, impl.ErrMany, len(next.Imports) > 12)
}

// slowReadNet finds all faults of each line, where the program ends at the first.
func slowReadNet(text string) (impl.Net, int, int) {
	var n impl.Net
	for i, line := range strings.Split(text, "\n") {
		line = strings.Trim(slowBlanks.ReplaceAllString(line, " "), " ")
		if line == "" || line[0] == '#' {
			continue
		}
		s := slowLine{n: &n}
		if code := s.add(line); code != 0 {
			return impl.Net{}, code, i + 1
		}
	}
	if len(n.Routers) == 0 {
		return impl.Net{}, impl.ErrNone, 0
	}
	return n, 0, 0
}

// someLine is a line of a network of a to d, right or not; one in so many of its words is wrong.
func someLine(r *rand.Rand, wrong int) string {
	pick := func(right []string, others ...string) string {
		if r.Intn(wrong) == 0 {
			return others[r.Intn(len(others))]
		}
		return right[r.Intn(len(right))]
	}
	name := func() string { return pick([]string{"a", "b", "c", "d"}, "e", "9", "A", "to", "#a", "é") }
	key := func(word string) string { return pick([]string{word}, "", "x", word+"s", word+" "+word, "#", "cost") }
	number := func(right ...string) string {
		return pick(right, "-1", "x", "01", "101", "16", "1001", "-0", "5 5", "")
	}
	deed := func() string {
		when := pick([]string{"", "", "if mark", "if plain"}, "if", "if go", "mark")
		return when + " " + pick([]string{"deny", "mark", "clear", "pref " + number("0", "1000", "50")}, "", "go", "pref", "deny 5", "mark if mark")
	}
	port := func() string { return number("0", "5", "10", "15") }
	switch r.Intn(9) {
	case 0:
		return key("router") + " " + name()
	case 1, 2:
		return key("link") + " " + name() + " " + name()
	case 3:
		return key("link") + " " + name() + " " + name() + " " + key("cost") + " " + number("1", "7", "100")
	case 4:
		return key("origin") + " " + name()
	case 5:
		return key("external") + " " + name()
	case 6, 7:
		return key("import") + " " + name() + " " + key("from") + " " + name() + " " + deed()
	}
	return key("filter") + " " + name() + " " + key("to") + " " + name() + " " + key("port") + " " + port() + " " + port()
}

// TestAnyText holds texts of any lines against the slow reader.
func TestAnyText(t *testing.T) {
	r := chance()
	codes := map[int]int{}
	for range 100000 {
		text := []string{"", "router a\nrouter b\n", baseText, baseText + "link a c\nlink d b\n", wholeTextOfLetters()}[r.Intn(5)]
		wrong := 2 + r.Intn(30)
		for range r.Intn(6) {
			text += loose(r, someLine(r, wrong)) + "\n"
		}
		want, wantCode, wantLine := slowReadNet(text)
		codes[wantCode]++
		n, code, line := impl.ReadNet(text)
		if code != wantCode || line != wantLine || !sameNet(n, want) {
			t.Fatalf("ReadNet(%q) = %v, %d, %d, not %v, %d, %d", text, n, code, line, want, wantCode, wantLine)
		}
		if code == 0 && !impl.NetOK(n) {
			t.Fatalf("ReadNet(%q) = %v, which is not right", text, n)
		}
	}
	for _, code := range []int{0, impl.ErrSyntax, impl.ErrName, impl.ErrRange, impl.ErrTwice, impl.ErrLoop, impl.ErrNone, impl.ErrMany} {
		if codes[code] < 1000 {
			t.Errorf("codes %v: the test tells little", codes)
		}
	}
}

// wholeTextOfLetters has as many imports and filters as there may be, and no link from a to d.
func wholeTextOfLetters() string {
	return baseText + "link a c\n" + strings.Repeat("import a from b deny\n", impl.MaxImports) + strings.Repeat("filter b to c port 0 9\n", impl.MaxFilters)
}
