package tests

import (
	"fmt"
	"math/rand"
	"slices"
	"strings"
	"testing"

	"loop.example/g00159/impl"
)

// Tests of promise 7: the texts of networks, and how right texts are read.

func checkNetText(t *testing.T, n impl.Net, want string) {
	t.Helper()
	if got, code := impl.NetText(n); code != 0 || got != want {
		t.Fatalf("NetText(%v) = %q, %d, not %q", n, got, code, want)
	}
}

func checkReadNet(t *testing.T, text string, want impl.Net) {
	t.Helper()
	if got, code, line := impl.ReadNet(text); code != 0 || line != 0 || !sameNet(got, want) {
		t.Fatalf("ReadNet(%s) = %v, %d, %d, not %v", brief(text), got, code, line, want)
	}
}

// wholeText is the text of wholeNet, line by line.
func wholeText() string {
	d := strings.Repeat("d", 40)
	return strings.Join([]string{
		"router a", "router _b9", "router C", "router " + d,
		"link a _b9 cost 1", "link C _b9 cost 100", "link " + d + " a cost 7", "link _b9 " + d + " cost 99", "link C a cost 2", "link C " + d + " cost 50",
		"origin a", "origin _b9", "origin C", "origin " + d,
		"external _b9", "external " + d,
		"import a from _b9 deny", "import a from C if mark deny", "import a from " + d + " if plain deny",
		"import _b9 from C pref 0", "import _b9 from " + d + " if mark pref 1000", "import _b9 from a if plain pref 100",
		"import C from " + d + " mark", "import C from a if mark mark", "import C from _b9 if plain mark",
		"import " + d + " from a clear", "import " + d + " from _b9 if mark clear", "import " + d + " from C if plain clear",
		"filter a to _b9 port 0 15", "filter _b9 to a port 0 0", "filter " + d + " to C port 15 15",
		"filter C to " + d + " port 3 4", "filter a to _b9 port 0 15", "filter _b9 to " + d + " port 9 10",
	}, "\n") + "\n"
}

func TestNetText(t *testing.T) {
	checkNetText(t, wholeNet(), wholeText())
	checkReadNet(t, wholeText(), wholeNet())
	checkNetText(t, impl.Net{Routers: []string{"a"}}, "router a\n")
	checkNetText(t, smallNet(), "router a\nrouter b\nrouter c\nlink a b cost 1\nlink c b cost 5\n")
	checkNetText(t, impl.Net{Routers: []string{"router"}, Origins: []int{0}, Externals: []int{0}}, "router router\norigin router\nexternal router\n")
}

// slowNetText is told apart from the program, sentence by sentence.
func slowNetText(n impl.Net) string {
	var b strings.Builder
	for _, name := range n.Routers {
		fmt.Fprintf(&b, "router %s\n", name)
	}
	for _, l := range n.Links {
		fmt.Fprintf(&b, "link %s %s cost %d\n", n.Routers[l.A], n.Routers[l.B], l.Cost)
	}
	for _, o := range n.Origins {
		fmt.Fprintf(&b, "origin %s\n", n.Routers[o])
	}
	for _, e := range n.Externals {
		fmt.Fprintf(&b, "external %s\n", n.Routers[e])
	}
	for _, i := range n.Imports {
		does := map[int]string{1: "deny", 2: fmt.Sprint("pref ", i.N), 3: "mark", 4: "clear"}[i.Do]
		fmt.Fprintf(&b, "import %s from %s%s %s\n", n.Routers[i.At], n.Routers[i.From], map[int]string{1: " if mark", 2: " if plain"}[i.When], does)
	}
	for _, f := range n.Filters {
		fmt.Fprintf(&b, "filter %s to %s port %d %d\n", n.Routers[f.At], n.Routers[f.To], f.Low, f.High)
	}
	return b.String()
}

// TestTextIsReadAsTheNet is promise 7.
func TestTextIsReadAsTheNet(t *testing.T) {
	r := chance()
	for range 20000 {
		n := someNet(r)
		text, code := impl.NetText(n)
		if code != 0 || text != slowNetText(n) {
			t.Fatalf("NetText(%v) = %q, %d", n, text, code)
		}
		checkReadNet(t, text, n)
		checkReadNet(t, strings.TrimSuffix(text, "\n"), n)
	}
}

// loose writes a line with more blanks, and others that say nothing around it.
func loose(r *rand.Rand, line string) string {
	blanks := func() string { return strings.Repeat(" ", 1+r.Intn(3)) }
	if r.Intn(3) == 0 {
		line = blanks()[1:] + strings.ReplaceAll(line, " ", blanks()) + blanks()[1:]
	}
	for r.Intn(3) == 0 {
		nothing := []string{"", "  ", "#", "# router a", " #link q q", "#\t\r\x00\xff", "##"}
		line = nothing[r.Intn(len(nothing))] + "\n" + line
	}
	return line
}

// mayCome tells whether all that a line needs has been told: the routers that it names, and the link that it is about.
func mayCome(line string, told []string) bool {
	w := strings.Split(line, " ")
	has := func(beginning string) bool {
		return slices.ContainsFunc(told, func(l string) bool { return strings.HasPrefix(l+" ", beginning+" ") })
	}
	switch w[0] {
	case "router":
		return true
	case "link":
		return has("router "+w[1]) && has("router "+w[2])
	case "origin", "external":
		return has("router " + w[1])
	}
	return has("link "+w[1]+" "+w[3]) || has("link "+w[3]+" "+w[1])
}

// inTextOrder has lines kind by kind; origins and externals by their routers, all others as they come.
func inTextOrder(lines []string) string {
	var b strings.Builder
	for _, kind := range []string{"router ", "link ", "origin ", "external ", "import ", "filter "} {
		for _, line := range lines {
			if name, ok := strings.CutPrefix(line, "router "); ok && (kind == "origin " || kind == "external ") {
				if slices.Contains(lines, kind+name) {
					b.WriteString(kind + name + "\n")
				}
			} else if strings.HasPrefix(line, kind) && kind != "origin " && kind != "external " {
				b.WriteString(line + "\n")
			}
		}
	}
	return b.String()
}

// TestLinesInAnyOrder stirs a text's lines, names ahead of what asks for them, and links ahead of what they bear.
func TestLinesInAnyOrder(t *testing.T) {
	r := chance()
	for range 20000 {
		lines := strings.Split(strings.TrimSuffix(slowNetText(someNet(r)), "\n"), "\n")
		r.Shuffle(len(lines), func(i, j int) { lines[i], lines[j] = lines[j], lines[i] })
		var told []string
		var text string
		for len(lines) > 0 {
			next := slices.IndexFunc(lines, func(line string) bool { return mayCome(line, told) })
			told, text = append(told, lines[next]), text+loose(r, lines[next])+"\n"
			lines = slices.Delete(lines, next, next+1)
		}
		n, code, line := impl.ReadNet(text)
		if code != 0 || line != 0 {
			t.Fatalf("ReadNet(%q) = %v, %d, %d", text, n, code, line)
		}
		checkNetText(t, n, inTextOrder(told))
	}
}

func TestReadNetLoosely(t *testing.T) {
	pair := impl.Net{Routers: []string{"a", "b"}, Links: []impl.Link{{A: 0, B: 1, Cost: 1}}}
	for _, text := range []string{
		"router a\nrouter b\nlink a b\n", "router a\nrouter b\nlink a b", "router a\nrouter b\nlink a b cost 1", "\n\nrouter a\n\nrouter b\n   \nlink a b\n\n\n",
		"  router   a  \nrouter b \n link  a  b ", "# router c\nrouter a\n#router a\n  # x\nrouter b\n###\nlink a b\n#", "router a\nrouter b\nlink   a   b   cost   1   ",
		"#\x00\xff\t\r\nrouter a\nrouter b\nlink a b\n#" + strings.Repeat("x ", 1000),
	} {
		checkReadNet(t, text, pair)
	}
	// Words of the lines may be names.
	checkReadNet(t, "router router\nrouter link\nrouter cost\nrouter if\nlink router link\nlink link cost\nlink cost if cost 9\nimport if from cost if mark mark\nimport cost from if pref 3\nfilter link to cost port 1 2\norigin if\nexternal cost\n", impl.Net{
		Routers: []string{"router", "link", "cost", "if"}, Links: []impl.Link{{A: 0, B: 1, Cost: 1}, {A: 1, B: 2, Cost: 1}, {A: 2, B: 3, Cost: 9}}, Origins: []int{3}, Externals: []int{2},
		Imports: []impl.Import{{At: 3, From: 2, When: impl.WhMark, Do: impl.DoMark}, {At: 2, From: 3, Do: impl.DoPref, N: 3}}, Filters: []impl.Filter{{At: 1, To: 2, Low: 1, High: 2}},
	})
	// Origins and externals rise, however they come; links, imports and filters stay as they come.
	checkReadNet(t, "router z\nrouter y\norigin y\norigin z\nexternal y\nlink y z cost 2\nexternal z\nfilter z to y port 9 9\nfilter y to z port 1 1\nimport z from y mark\nimport y from z deny\nimport z from y mark\n", impl.Net{
		Routers: []string{"z", "y"}, Links: []impl.Link{{A: 1, B: 0, Cost: 2}}, Origins: []int{0, 1}, Externals: []int{0, 1},
		Imports: []impl.Import{{At: 0, From: 1, Do: impl.DoMark}, {At: 1, From: 0, Do: impl.DoDeny}, {At: 0, From: 1, Do: impl.DoMark}},
		Filters: []impl.Filter{{At: 0, To: 1, Low: 9, High: 9}, {At: 1, To: 0, Low: 1, High: 1}},
	})
}

func TestLongNetText(t *testing.T) {
	one := impl.Net{Routers: []string{"a"}}
	for _, head := range []string{"router a", "router a\n", "router a\n#", "router a\n\n# x"} {
		for _, more := range []string{" ", "\n"} {
			if strings.HasSuffix(head, "x") && more == "\n" || !strings.HasSuffix(head, "x") {
				most := head + strings.Repeat(more, impl.MaxText-len(head))
				checkReadNet(t, most, one)
				if n, code, line := impl.ReadNet(most + more); code != impl.ErrLong || line != 0 || !isZeroNet(n) {
					t.Error("ReadNet of one byte more", n, code, line)
				}
			}
		}
	}
	for _, row := range []struct {
		text       string
		code, line int
	}{
		{strings.Repeat("x", impl.MaxText), impl.ErrSyntax, 1}, {strings.Repeat("x", impl.MaxText+1), impl.ErrLong, 0}, {strings.Repeat("#", impl.MaxText), impl.ErrNone, 0},
		{strings.Repeat("#", impl.MaxText+1), impl.ErrLong, 0}, {strings.Repeat("\n", impl.MaxText), impl.ErrNone, 0}, {strings.Repeat(" ", impl.MaxText), impl.ErrNone, 0},
		{strings.Repeat("\n", impl.MaxText-1) + "x", impl.ErrSyntax, impl.MaxText}, {strings.Repeat("\n", impl.MaxText) + "x", impl.ErrLong, 0},
		{strings.Repeat("x ", impl.MaxText/2), impl.ErrSyntax, 1}, {"router " + strings.Repeat("a", impl.MaxText-7), impl.ErrSyntax, 1}, {"x" + strings.Repeat("\n", impl.MaxText), impl.ErrLong, 0},
	} {
		if n, code, line := impl.ReadNet(row.text); code != row.code || line != row.line || !isZeroNet(n) {
			t.Errorf("ReadNet(%.20q) of %d bytes: %v, %d, %d", row.text, len(row.text), n, code, line)
		}
	}
}
