package tests

import (
	"math/rand"
	"slices"
	"strings"
	"testing"

	"loop.example/g00159/impl"
)

// Tests of promise 11: what a console says, line by line.

func checkConsole(t *testing.T, text, want string) {
	t.Helper()
	if got, code := impl.Console(text); code != 0 || got != want {
		t.Fatalf("Console(%q) = %q, %d, not %q", brief(text), brief(got), code, brief(want))
	}
}

// exchange is a line, and what is said to it.
type exchange struct{ line, said string }

// checkTalk has the lines one behind the other, and each of their beginnings alone.
func checkTalk(t *testing.T, talk []exchange) {
	t.Helper()
	var text, said string
	for _, e := range talk {
		text, said = text+e.line+"\n", said+e.said
		checkConsole(t, text, said)
		if e.line != "" {
			checkConsole(t, strings.TrimSuffix(text, "\n"), said)
		}
	}
}

func TestConsole(t *testing.T) {
	checkTalk(t, []exchange{
		{"router a", ""},
		{"verify reach a", "violated 1 port 0 down from via a>-\n"},
		{"verify never a", "holds 1\n"},
		{"router b", ""},
		{"verify own b port 15 fail 2", "violated 1 port 15 down from via a>- b>-\n"},
		{"link b a cost 5", ""},
		{"origin b", ""},
		{"verify reach a", "holds 1\n"},
		{"verify own a port 3", "holds 1\n"},
		{"verify never a", "violated 1 port 0 down from via a>b b>self\n"},
		{"verify never a port 4 fail 1", "violated 1 port 4 down from via a>b b>self\n"},
		{"verify reach a fail 0", "holds 1\n"},
		{"verify reach a fail 1", "violated 2 port 0 down b-a from via a>- b>self\n"},
		{"verify reach a port 9 fail 2", "violated 2 port 9 down b-a from via a>- b>self\n"},
		{"verify reach b fail 2", "holds 2\n"},
		{"verify way a via a", "holds 1\n"},
		{"verify way b via a", "violated 1 port 0 down from via a>b b>self\n"},
		{"verify way b via a port 15 fail 2", "violated 1 port 15 down from via a>b b>self\n"},
		{"external a", ""},
		{"verify own a", "violated 2 port 0 down from a=1 via a>out b>self\n"},
		{"import a from b if plain pref 300", ""},
		{"verify own a", "holds 3\n"},
		{"verify own a port 7 fail 2", "violated 4 port 7 down b-a from a=0 via a>- b>self\n"},
		{"filter a to b port 3 4", ""},
		{"verify own a", "violated 1 port 3 down from a=0 via a>b b>self\n"},
		{"verify own a port 5", "holds 3\n"},
		{"show", "router a\nrouter b\nlink b a cost 5\norigin b\nexternal a\nimport a from b if plain pref 300\nfilter a to b port 3 4\n"},
	})
}

// TestConsoleFaults has a word for each code that a line may have, and lines that change nothing between those that do.
func TestConsoleFaults(t *testing.T) {
	checkTalk(t, []exchange{
		{"origin a", "error name\n"},
		{"router 9", "error syntax\n"},
		{"show", ""},
		{"router a", ""},
		{"router a", "error twice\n"},
		{"show", "router a\n"},
		{"link a a", "error loop\n"},
		{"link a b", "error name\n"},
		{"verify reach b", "error name\n"},
		{"router b", ""},
		{"verify reach b", "violated 1 port 0 down from via a>- b>-\n"},
		{"import a from b deny", "error none\n"},
		{"filter a to b port 1 2", "error none\n"},
		{"link a b cost 0", "error range\n"},
		{"link a b cost 101", "error range\n"},
		{"link a b cost x", "error syntax\n"},
		{"show", "router a\nrouter b\n"},
		{"link a b cost 7", ""},
		{"link b a", "error twice\n"},
		{"link a b cost 8", "error twice\n"},
		{"import a from b pref 1001", "error range\n"},
		{"filter a to b port 2 1", "error range\n"},
		{"verify reach a port 16", "error range\n"},
		{"verify reach a fail 3", "error range\n"},
		{"verify go a", "error syntax\n"},
		{"verify", "error syntax\n"},
		{"go", "error syntax\n"},
		{"show", "router a\nrouter b\nlink a b cost 7\n"},
		{"import a from b deny", ""},
		{"origin b", ""},
		{"origin b", "error twice\n"},
		{"external a", ""},
		{"external b", ""},
		{"external b", "error twice\n"},
		{"router c", ""},
		{"external c", "error many\n"},
		{"router d", ""},
		{"router e", "error many\n"},
		{"link d e", "error name\n"},
		{"verify own b", "holds 9\n"},
		{"show", "router a\nrouter b\nrouter c\nrouter d\nlink a b cost 7\norigin b\nexternal a\nexternal b\nimport a from b deny\n"},
	})
}

// TestFaultyLinesOfNetworks has each line that chapter 7 finds a fault with, told by its word, and the network as it was.
func TestFaultyLinesOfNetworks(t *testing.T) {
	full := baseText + strings.Repeat("import a from b deny\n", impl.MaxImports) + strings.Repeat("filter b to c port 0 9\n", impl.MaxFilters)
	for _, row := range []lineFault{
		{"router", impl.ErrSyntax}, {"router e f", impl.ErrSyntax}, {"router 9", impl.ErrSyntax}, {"router é", impl.ErrSyntax}, {"router " + strings.Repeat("x", impl.MaxName+1), impl.ErrSyntax}, {"router a", impl.ErrTwice}, {"router e", impl.ErrMany},
		{"link a", impl.ErrSyntax}, {"link a d 5", impl.ErrSyntax}, {"link a d cost x", impl.ErrSyntax}, {"link 9 d", impl.ErrSyntax}, {"link a e", impl.ErrName}, {"link e 9", impl.ErrName}, {"link a d cost 0", impl.ErrRange}, {"link a d cost 101", impl.ErrRange}, {"link a a", impl.ErrLoop}, {"link b a", impl.ErrTwice}, {"link a a cost 0", impl.ErrRange},
		{"origin", impl.ErrSyntax}, {"origin 9", impl.ErrSyntax}, {"origin e", impl.ErrName}, {"origin a", impl.ErrTwice}, {"origin b c", impl.ErrSyntax}, {"external", impl.ErrSyntax}, {"external e", impl.ErrName}, {"external b", impl.ErrTwice}, {"external a", impl.ErrMany}, {"external d", impl.ErrMany},
		{"import a from b", impl.ErrSyntax}, {"import a from b go", impl.ErrSyntax}, {"import a from b pref x", impl.ErrSyntax}, {"import a from e deny", impl.ErrName}, {"import a from b pref 1001", impl.ErrRange}, {"import a from b if go deny", impl.ErrSyntax}, {"import a from d deny", impl.ErrNone}, {"import a from b deny", impl.ErrMany},
		{"filter a to b port 1", impl.ErrSyntax}, {"filter a to b port 1 x", impl.ErrSyntax}, {"filter e to b port 1 2", impl.ErrName}, {"filter a to b port 0 16", impl.ErrRange}, {"filter a to b port 2 1", impl.ErrRange}, {"filter a to c port 1 2", impl.ErrNone}, {"filter b to c port 0 9", impl.ErrMany},
		{"go", impl.ErrSyntax}, {"Show", impl.ErrSyntax}, {"shows", impl.ErrSyntax}, {"verifies reach a", impl.ErrSyntax}, {"Verify reach a", impl.ErrSyntax}, {"showverify", impl.ErrSyntax}, {"a", impl.ErrSyntax}, {"-", impl.ErrSyntax}, {"show\tx", impl.ErrSyntax}, {"show\r", impl.ErrSyntax}, {"\tshow", impl.ErrSyntax}, {"\t# x", impl.ErrSyntax}, {"\x00", impl.ErrSyntax}, {"\xff\xfe", impl.ErrSyntax},
		// The network's text is told to the line `show`, which has no other word.
		{"show x", impl.ErrSyntax}, {"show show", impl.ErrSyntax}, {"show #", impl.ErrSyntax}, {"show a b c", impl.ErrSyntax}, {"show verify reach a", impl.ErrSyntax},
	} {
		text := slowNetText(netOf(t, full))
		error := "error " + impl.CodeWord(row.code) + "\n"
		checkConsole(t, full+row.line, error)
		checkConsole(t, full+row.line+"\n"+row.line+"\nshow", error+error+text)
		checkConsole(t, full+"show\n  "+row.line+" \nlink c d cost 9\nshow\n", text+error+strings.Replace(text, "origin a\n", "link c d cost 9\norigin a\n", 1))
	}
}

func TestNoLines(t *testing.T) {
	for _, text := range []string{"", "\n", "\n\n\n", " ", "  \n ", "#", "# verify reach a\n", "#show", "  # router a\n#\n", "##\n\n", "#\x00\xff\n"} {
		checkConsole(t, text, "")
	}
	// A byte 10 ends a line; another one behind it is a line without words.
	for _, text := range []string{"router a\nshow", "router a\nshow\n", "\nrouter a\n\nshow\n\n", "router a\n#\nshow\n#"} {
		checkConsole(t, text, "router a\n")
	}
}

func TestWordsOfConsoles(t *testing.T) {
	checkConsole(t, "   router    a  \n  show ", "router a\n")
	checkConsole(t, "router a\n  verify  never   a    port 3  ", "holds 1\n")
	// Blanks are bytes 32 alone.
	checkConsole(t, "router\ta\nrouter a\r\nrouter a\nshow\r\nshow", "error syntax\nerror syntax\nerror syntax\nrouter a\n")
	checkConsole(t, "router a\nverify never a\r\nverify never a\t\nverify\tnever a\nverify never\x00 a", "error name\nerror name\nerror syntax\nerror syntax\n")
	// Routers may be named as commands are.
	checkConsole(t, "router show\nrouter verify\nshow\nverify never verify\nverify way verify via show", "router show\nrouter verify\nholds 1\nholds 1\n")
	// `#` makes a line say nothing as the beginning of its first word alone.
	checkConsole(t, "router a #\nrouter #a\n#router a\n# router a\nrouter a\nverify never a #\nverify never #a\nshow", "error syntax\nerror syntax\nerror syntax\nerror name\nrouter a\n")
}

// TestAsksWithoutRouters: from the left, and at FROM there is no router yet.
func TestAsksWithoutRouters(t *testing.T) {
	for line, want := range map[string]string{
		"verify reach a": "name", "verify never a": "name", "verify own a": "name", "verify way a via b": "name", "verify way a": "name", "verify way a b": "name", "verify reach 9": "name", "verify reach a x": "name", "verify reach a port x": "name",
		"verify reach a port 16": "name", "verify reach a fail 3": "name", "verify reach a port": "name", "verify reach a via a": "name", "verify": "syntax", "verify reach": "syntax", "verify go": "syntax", "verify go a": "syntax", "verify way": "syntax", "verify 9 9": "syntax",
	} {
		checkConsole(t, line, "error "+want+"\n")
		checkConsole(t, line+"\nrouter 9\n"+line+"\nshow", "error "+want+"\nerror syntax\nerror "+want+"\n")
	}
	checkConsole(t, "verify never a\nrouter b\nverify never a\nrouter a\nverify never a\nverify never b", "error name\nerror name\nholds 1\nholds 1\n")
	checkConsole(t, "show\nshow\n#\nshow", "")
}

func TestHowManyLines(t *testing.T) {
	fault := func(text string, want int) {
		t.Helper()
		if said, code := impl.Console(text); code != want || said != "" {
			t.Fatalf("Console(%q) = %q, %d, not code %d", brief(text), brief(said), code, want)
		}
	}
	for _, line := range []string{"", " ", "#", "# x", "show", "router 9", "verify reach a", "x"} {
		said, _ := slowConsole(line)
		many := strings.Repeat(line+"\n", impl.MaxLines)
		checkConsole(t, many, strings.Repeat(said, impl.MaxLines))
		if line != "" {
			// The last one counts without its byte 10, too.
			checkConsole(t, strings.TrimSuffix(many, "\n"), strings.Repeat(said, impl.MaxLines))
			fault(many+line, impl.ErrMany)
		}
		fault(many+line+"\n", impl.ErrMany)
		fault(many+" ", impl.ErrMany)
		fault(many+"#", impl.ErrMany)
		fault(many+"\x00", impl.ErrMany)
		fault(strings.Repeat(line+"\n", 2*impl.MaxLines), impl.ErrMany)
	}
	full := "router a\n" + strings.Repeat("#\n", impl.MaxLines-2)
	checkConsole(t, full+"show\n", "router a\n")
	checkConsole(t, full+"show", "router a\n")
	checkConsole(t, full+strings.Repeat(" ", impl.MaxText-len(full)), "")
	fault(full+"show\n\n", impl.ErrMany)
	fault(full+"show\nshow", impl.ErrMany)
	fault(full+"\n\n", impl.ErrMany)

	// MaxText bytes, and one more.
	checkConsole(t, strings.Repeat(" ", impl.MaxText), "")
	checkConsole(t, strings.Repeat("x", impl.MaxText), "error syntax\n")
	checkConsole(t, strings.Repeat("#", impl.MaxText), "")
	checkConsole(t, "router a\nshow"+strings.Repeat(" ", impl.MaxText-13), "router a\n")
	checkConsole(t, "router "+strings.Repeat("a", impl.MaxText-7), "error syntax\n")
	checkConsole(t, "verify never "+strings.Repeat("a", impl.MaxText-13), "error name\n")
	fault(strings.Repeat("\n", impl.MaxText), impl.ErrMany)
	fault(strings.Repeat("\n", impl.MaxText+1), impl.ErrLong)
	for _, piece := range []string{" ", "x", "#", "show\n", "router a\n", "\x00"} {
		fault(strings.Repeat(piece, impl.MaxText+1)[:impl.MaxText+1], impl.ErrLong)
	}
	fault("router a\nshow"+strings.Repeat(" ", impl.MaxText-12), impl.ErrLong)
	fault(strings.Repeat("x", 1<<21), impl.ErrLong)
}

// TestGreatestConsole has as much said as a text may ask for.
func TestGreatestConsole(t *testing.T) {
	var lines []string
	for _, name := range []string{"a", "b", "c", "d"} {
		lines = append(lines, "router "+strings.Repeat(name, impl.MaxName))
	}
	for _, row := range strings.Fields("ab ac ad bc bd cd") {
		lines = append(lines, "link "+strings.Repeat(row[:1], impl.MaxName)+" "+strings.Repeat(row[1:], impl.MaxName)+" cost 100")
	}
	a, b := strings.Repeat("a", impl.MaxName), strings.Repeat("b", impl.MaxName)
	lines = append(lines, "origin "+a, "external "+b)
	for range impl.MaxImports {
		lines = append(lines, "import "+a+" from "+b+" if plain pref 1000")
	}
	for range impl.MaxFilters {
		lines = append(lines, "filter "+a+" to "+b+" port 10 15")
	}
	net := strings.Join(lines, "\n") + "\n"
	shows := impl.MaxLines - len(lines)
	checkConsole(t, net+strings.Repeat("show\n", shows), strings.Repeat(net, shows))
	if len(net)*shows <= impl.MaxText {
		t.Error("no more is said than may be handed in: the test tells little")
	}
}

// slowSay tells a line to a network, and what is said to it.
func slowSay(n *impl.Net, line string) string {
	words := strings.FieldsFunc(line, func(c rune) bool { return c == ' ' })
	code := 0
	switch {
	case len(words) == 0 || words[0][0] == '#':
		return ""
	case strings.Join(words, " ") == "show":
		return slowNetText(*n)
	case words[0] == "verify":
		p, k, askCode := slowAsk(n.Routers, words)
		if askCode == 0 {
			v, _ := impl.Verify(*n, p, k)
			return slowVerdictText(*n, v)
		}
		code = askCode
	default:
		code = (&slowLine{n: n}).add(strings.Join(words, " "))
	}
	if code == 0 {
		return ""
	}
	return "error " + impl.CodeWord(code) + "\n"
}

// slowLines cuts a text at its bytes 10.
func slowLines(text string) []string {
	var lines []string
	for text != "" {
		line, rest, _ := strings.Cut(text, "\n")
		lines, text = append(lines, line), rest
	}
	return lines
}

func slowConsole(text string) (string, int) {
	lines := slowLines(text)
	switch {
	case len(text) > 65536:
		return "", impl.ErrLong
	case len(lines) > 100:
		return "", impl.ErrMany
	}
	var n impl.Net
	said := ""
	for _, line := range lines {
		said += slowSay(&n, line)
	}
	return said, 0
}

// someTalk is lines of any kind, of routers a to d.
func someTalk(r *rand.Rand, count int) []string {
	var lines []string
	wrong := 3 + r.Intn(40)
	switch r.Intn(6) {
	case 0:
		lines = append(lines, "router a", "router b")
	case 1, 2:
		lines = append(lines, "router a", "router b", "router c", "link a b", "link b c cost 3", "origin c", "external a")
	case 3:
		lines = slowLines(baseText + "link a c cost 9\nlink d b\nimport b from a if mark pref 90\nfilter b to a port 3 9\n")
	case 4:
		lines = slowLines(wholeTextOfLetters())
	}
	for range count {
		switch r.Intn(8) {
		case 0, 1, 2:
			lines = append(lines, someAsk(r, []string{"a", "b", "c"}, wrong))
		case 3:
			lines = append(lines, []string{"show", " show ", "show", "show x", "Show"}[r.Intn(5)])
		case 4:
			lines = append(lines, []string{"", "  ", "#", "# show", "#verify reach a", " #\x00\xff"}[r.Intn(6)])
		default:
			lines = append(lines, someLine(r, wrong))
		}
	}
	return lines
}

func TestConsoleWordByWord(t *testing.T) {
	r := chance()
	found := map[string]int{}
	for range 3000 {
		text := strings.Join(someTalk(r, r.Intn(25)), "\n")
		if r.Intn(2) == 0 {
			text += "\n"
		}
		want, wantCode := slowConsole(text)
		if got, code := impl.Console(text); code != wantCode || got != want {
			t.Fatalf("Console(%q) = %q, %d, not %q, %d", text, got, code, want, wantCode)
		}
		for _, line := range slowLines(want) {
			words := strings.Fields(line)
			found[words[0]]++
			if words[0] == "error" {
				found[line]++
			}
		}
	}
	for _, word := range []string{"holds", "violated", "router", "link", "origin", "external", "import", "filter", "error syntax", "error name", "error range", "error twice", "error loop", "error none", "error many"} {
		if found[word] < 200 {
			t.Errorf("%v: the test tells little", found)
			break
		}
	}
}

// saidTo is all that is said to some lines.
func saidTo(t *testing.T, lines []string) string {
	t.Helper()
	said, code := impl.Console(strings.Join(lines, "\n") + "\n")
	if code != 0 {
		t.Fatalf("Console of %q: code %d", lines, code)
	}
	return said
}

// TestFirstLines is promise 11.
func TestFirstLines(t *testing.T) {
	r := chance()
	longer := 0
	for range 600 {
		first, second, third := someTalk(r, r.Intn(12)), someTalk(r, r.Intn(12)), someTalk(r, 1+r.Intn(12))
		alone := saidTo(t, first)
		for _, later := range [][]string{second, third, slices.Concat(second, third)} {
			later = later[:min(len(later), impl.MaxLines-len(first))]
			all := saidTo(t, slices.Concat(first, later))
			if !strings.HasPrefix(all, alone) {
				t.Fatalf("to %q is said %q, with %q behind it %q", first, alone, later, all)
			}
			if len(all) > len(alone) && alone != "" {
				longer++
			}
		}
		// So it is line by line.
		ahead := ""
		for i := range first {
			said := saidTo(t, first[:i+1])
			if !strings.HasPrefix(said, ahead) || !strings.HasPrefix(alone, said) {
				t.Fatalf("to %q is said %q, to one less %q, to all %q", first[:i+1], said, ahead, alone)
			}
			ahead = said
		}
	}
	if longer < 1000 {
		t.Errorf("%d say more: the test tells little", longer)
	}
}

// TestAsMuchAsItTakes: up to MaxLines the lines behind do not matter; with one more there is a code.
func TestAsMuchAsItTakes(t *testing.T) {
	first := "router a\nverify never a\nshow\n"
	for more := range impl.MaxLines {
		said, code := impl.Console(first + strings.Repeat("router 9\n", more))
		if more > impl.MaxLines-3 {
			if code != impl.ErrMany || said != "" {
				t.Fatalf("%d lines more: %q, %d", more, said, code)
			}
			continue
		}
		if code != 0 || said != "holds 1\nrouter a\n"+strings.Repeat("error syntax\n", more) {
			t.Fatalf("%d lines more: %q, %d", more, said, code)
		}
	}
}

// TestLinesThatSayNothing: put in between, they change nothing of what is said.
func TestLinesThatSayNothing(t *testing.T) {
	r := chance()
	for range 1500 {
		lines := someTalk(r, r.Intn(15))
		want := saidTo(t, lines)
		var all []string
		for _, line := range lines {
			for r.Intn(3) == 0 {
				all = append(all, []string{"", " ", "     ", "#", "# router a", " #link a b", "##", "#verify reach a", "   # show", "#\t\r\x00\xff"}[r.Intn(10)])
			}
			all = append(all, line)
		}
		if len(all) > impl.MaxLines {
			continue
		}
		if got := saidTo(t, all); got != want {
			t.Fatalf("to %q is said %q, with lines that say nothing %q", lines, want, got)
		}
	}
}

// TestLinesThatChangeNothing: without lines at fault, questions and shows the network is the same, and so is what is said to the others.
func TestLinesThatChangeNothing(t *testing.T) {
	r := chance()
	faults, asks := 0, 0
	for range 700 {
		lines := someTalk(r, r.Intn(20))
		var kept []string
		ahead, said := "", ""
		for i, line := range lines {
			all := saidTo(t, lines[:i+1])
			one := strings.TrimPrefix(all, ahead)
			ahead = all
			switch words := strings.Fields(line); {
			case strings.HasPrefix(one, "error "):
				faults++
			case len(words) > 0 && words[0] == "verify":
				asks++
				if got := strings.TrimPrefix(saidTo(t, append(kept[:len(kept):len(kept)], line)), said); got != one {
					t.Fatalf("to %q behind %q is said %q, behind %q %q", line, lines[:i], one, kept, got)
				}
			case len(words) > 0 && words[0] == "show":
			default:
				kept = append(kept, line)
				said += one
			}
		}
		if said != "" {
			t.Fatalf("to lines %q of a network is said %q", kept, said)
		}
		want, _ := slowConsole(strings.Join(append(kept, "show"), "\n"))
		if got := strings.TrimPrefix(saidTo(t, append(lines, "show")), ahead); got != want {
			t.Fatalf("%q make %q, without those that change nothing %q", lines, got, want)
		}
		n, code, _ := impl.ReadNet(strings.Join(kept, "\n"))
		if text, _ := impl.NetText(n); text != want || (code == impl.ErrNone) != (want == "") {
			t.Fatalf("%q are read as %v, code %d, not as %q", kept, n, code, want)
		}
	}
	if faults < 1000 || asks < 1000 {
		t.Errorf("%d faults, %d questions: the test tells little", faults, asks)
	}
}
