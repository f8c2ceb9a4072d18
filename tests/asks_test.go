package tests

import (
	"fmt"
	"math/rand"
	"slices"
	"strconv"
	"strings"
	"testing"

	"loop.example/g00159/impl"
)

// Tests of chapter 11, for promises 11 and 12: questions, and which fault of one is told.

// askNet has routers named like words of questions, too.
const askNet = "router a\nrouter via\nrouter port\nrouter fail\nlink a via\nlink via port\nlink port fail\norigin a\n"

func checkAsk(t *testing.T, n impl.Net, line string, want impl.Property, wantK int) {
	t.Helper()
	if p, k, code := impl.ReadAsk(n, line); code != 0 || k != wantK || p != want {
		t.Fatalf("ReadAsk(%s, %q) = %v, %d, %d, not %v, %d", brief(n), brief(line), p, k, code, want, wantK)
	}
}

func checkAskFault(t *testing.T, n impl.Net, line string, want int) {
	t.Helper()
	if p, k, code := impl.ReadAsk(n, line); code != want || k != 0 || p != (impl.Property{}) {
		t.Fatalf("ReadAsk(%s, %q) = %v, %d, %d, not code %d", brief(n), brief(line), p, k, code, want)
	}
}

// slowAskText is the question of a property, without what may be left out.
func slowAskText(n impl.Net, p impl.Property, k int) string {
	text := fmt.Sprintf("verify %s %s", []string{"", "reach", "never", "way", "own"}[p.Kind], n.Routers[p.From])
	if p.Kind == impl.PrWay {
		text += " via " + n.Routers[p.Way]
	}
	if p.Port != -1 {
		text += fmt.Sprintf(" port %d", p.Port)
	}
	if k > 0 {
		text += fmt.Sprintf(" fail %d", k)
	}
	return text
}

// TestAllAsks has each question that there may be of some networks.
func TestAllAsks(t *testing.T) {
	for _, text := range []string{"router a", "router a\nrouter b\nlink a b\n", askNet, "router verify\nrouter reach\nrouter way\nrouter show\n", wholeText()} {
		n := netOf(t, text)
		for kind := impl.PrReach; kind <= impl.PrOwn; kind++ {
			for from := range n.Routers {
				for way := range n.Routers {
					for port := -1; port <= 15; port++ {
						for k := range 3 {
							p := impl.Property{Kind: kind, From: from, Port: port}
							if kind == impl.PrWay {
								p.Way = way
							}
							checkAsk(t, n, slowAskText(n, p, k), p, k)
						}
					}
				}
			}
		}
	}
}

func TestAsks(t *testing.T) {
	n := netOf(t, askNet)
	for _, row := range []struct {
		line string
		p    impl.Property
		k    int
	}{
		{"verify reach a", impl.Property{Kind: 1, From: 0, Port: -1}, 0},
		{"verify never via", impl.Property{Kind: 2, From: 1, Port: -1}, 0},
		{"verify own fail", impl.Property{Kind: 4, From: 3, Port: -1}, 0},
		{"verify way a via port", impl.Property{Kind: 3, From: 0, Port: -1, Way: 2}, 0},
		{"verify way via via via", impl.Property{Kind: 3, From: 1, Port: -1, Way: 1}, 0},
		{"verify reach port port 0", impl.Property{Kind: 1, From: 2, Port: 0}, 0},
		{"verify reach fail port 15 fail 0", impl.Property{Kind: 1, From: 3, Port: 15}, 0},
		{"verify reach fail fail 1", impl.Property{Kind: 1, From: 3, Port: -1}, 1},
		{"verify way port via fail port 7 fail 2", impl.Property{Kind: 3, From: 2, Port: 7, Way: 3}, 2},
		{"verify way fail via port fail 2", impl.Property{Kind: 3, From: 3, Port: -1, Way: 2}, 2},
		// No more links than there are need to be there: K has bounds of its own.
		{"  verify   own  a   port 3    fail  2 ", impl.Property{Kind: 4, From: 0, Port: 3}, 2},
		{strings.Repeat(" ", 1000) + "verify reach a" + strings.Repeat(" ", 1000), impl.Property{Kind: 1, From: 0, Port: -1}, 0},
	} {
		checkAsk(t, n, row.line, row.p, row.k)
	}
	checkAsk(t, netOf(t, "router a"), "verify reach a fail 2", impl.Property{Kind: 1, Port: -1}, 2)
}

// checkAskFaults has each line of each of some networks.
func checkAskFaults(t *testing.T, code int, lines ...string) {
	t.Helper()
	n := netOf(t, askNet)
	for _, line := range lines {
		checkAskFault(t, n, line, code)
		checkAskFault(t, n, "  "+strings.ReplaceAll(line, " ", "   ")+" ", code)
	}
}

func TestNoQuestions(t *testing.T) {
	checkAskFaults(t, impl.ErrSyntax,
		// Too few words.
		"", "verify", "verify reach", "verify never", "verify own", "verify way", "verify way a", "verify way a via", "verify reach a port", "verify reach a fail", "verify reach a port 3 fail", "verify way a via port port", "verify way a via port fail",
		// Too many.
		"verify reach a b", "verify reach a a", "verify reach a 3", "verify reach a port 3 4", "verify reach a port 3 fail 1 1", "verify reach a fail 1 2", "verify reach a verify", "verify reach a #", "verify reach a # port 3", "verify way a via a a", "verify way a via a via a", "verify reach a port 3 fail 1 x",
		// In another order, or twice.
		"verify reach a fail 1 port 3", "verify reach a port 3 port 3", "verify reach a fail 1 fail 1", "verify reach a port 3 fail 1 port 3", "verify way a port 3 via a", "verify way a fail 1 via a", "verify way via a a", "verify port 3 reach a", "verify reach port 3 a", "verify way a via a fail 1 port 3", "verify reach a port fail 1", "verify reach a port 3 1 fail",
		// What is no way has no way.
		"verify reach a via a", "verify never a via via", "verify own a via port port 3", "verify own a via",
		// Another first word.
		"reach a", "Verify reach a", "VERIFY reach a", "verifyreach a", "verif reach a", "verifys reach a", "verify, reach a", "show", "show reach a", "router a", "link a via", "# verify reach a", "#", "a", "reach verify a", "verify\treach a", "\tverify reach a", "verify\nreach a", "\nverify reach a", "\x00", "\xff",
		// Another KIND.
		"verify go a", "verify Reach a", "verify REACH a", "verify reaches a", "verify reac a", "verify verify a", "verify a", "verify a a", "verify 1 a", "verify via a", "verify port a", "verify reach,never a", "verify reach\t a", "verify own\r a", "verify ways a via a", "verify # a", "verify é a", "verify reach\x00 a", "verify \xff a", "verify - a",
		// Other words between.
		"verify way a by a", "verify way a Via a", "verify way a a", "verify way a a via", "verify reach a Port 3", "verify reach a ports 3", "verify reach a Fail 1", "verify reach a k 1", "verify reach a port=3", "verify reach a port\t3", "verify reach a fail\t1", "verify reach a -", "verify reach a \t", "verify reach a \r", "verify reach a \n", "verify reach a \x00", "verify reach a port 3 \r",
	)
}

func TestAsksWithoutNumbers(t *testing.T) {
	for _, number := range []string{"x", "-", "--1", "+1", "01", "00", "-0", "-01", "1x", "x1", "1.0", "0x1", "1_0", "1e1", "9999999999999999999", "-1000000000000000000", "1000000000000000000", "١", "1\x00", "1\t", "1\r", "1\n", "port", "fail", "a", "#", "=1"} {
		checkAskFaults(t, impl.ErrSyntax, "verify reach a port "+number, "verify own a fail "+number, "verify never a port "+number+" fail 1", "verify reach a port 1 fail "+number, "verify way a via port port "+number, "verify way a via fail fail "+number, "verify reach a port "+number+" fail "+number)
	}
}

func TestAsksOfNoRouter(t *testing.T) {
	// Whether it is a name or not is no matter: there is no such router.
	for _, name := range []string{"q", "A", "aa", "_", "b", "9", "0", "-1", "é", "a\t", "a\r", "a\n", "a\x00", "\x00", "\xff", "#", "#a", "a,", "verify", "reach", "a-via", strings.Repeat("a", impl.MaxName), strings.Repeat("a", impl.MaxName+1), strings.Repeat("a", 10000)} {
		checkAskFaults(t, impl.ErrName, "verify reach "+name, "verify never "+name, "verify own "+name, "verify way "+name+" via a", "verify way a via "+name, "verify way "+name+" via "+name, "verify reach "+name+" port 3", "verify own "+name+" fail 1", "verify way a via "+name+" port 3 fail 1")
	}
	// A name of another network is none of this one.
	checkAskFault(t, netOf(t, "router b"), "verify reach a", impl.ErrName)
	checkAsk(t, netOf(t, "router b"), "verify reach b", impl.Property{Kind: 1, Port: -1}, 0)
}

func TestAsksOutOfBounds(t *testing.T) {
	for _, number := range []string{"-1", "-2", "16", "17", "100", "4294967296", "-4294967296", "999999999999999999", "-999999999999999999"} {
		checkAskFaults(t, impl.ErrRange, "verify reach a port "+number, "verify own a fail "+number, "verify never a port "+number+" fail 1", "verify reach a port 1 fail "+number, "verify way a via port port "+number, "verify way a via fail fail "+number, "verify reach a port "+number+" fail "+number)
	}
	checkAskFaults(t, impl.ErrRange, "verify reach a fail 3", "verify reach a fail 15", "verify reach a port 15 fail 3", "verify way a via a fail 4", "verify reach a port 16 fail 2")
}

// TestWhichFaultOfAnAsk has lines with two faults and more: the leftmost is told.
func TestWhichFaultOfAnAsk(t *testing.T) {
	checkAskFaults(t, impl.ErrSyntax, "verify go q", "verify go q port 16", "very reach q", "verify reach a port x fail 3", "verify reach a port 3 x fail 3", "verify reach a fail x port 16", "verify way a q", "verify way a by q", "verify reach a via q", "verify go", "verify reach a fail 1 port 16", "verify way a port 16", "verify q", "reach q", "verify q reach port 16", "verify reach a q fail 3")
	checkAskFaults(t, impl.ErrName, "verify reach q q", "verify reach q port", "verify reach q port x", "verify reach q port 16", "verify reach q fail 3", "verify reach q via a", "verify way q", "verify way q by a", "verify way q via 9", "verify way a via q port x", "verify way a via q fail 3", "verify way a via q q", "verify reach q fail 1 port 3", "verify way q via a port x", "verify reach q #")
	checkAskFaults(t, impl.ErrRange, "verify reach a port 16 fail", "verify reach a port 16 fail x", "verify reach a port 16 x", "verify reach a port -1 port 3", "verify reach a fail 3 port 3", "verify reach a fail 3 fail x", "verify reach a port 16 fail 1 x", "verify way a via a port 16 q", "verify reach a port 3 fail 3 x", "verify own a fail 3 #")
}

func TestAsksOfWrongNets(t *testing.T) {
	n := pairNet(2, 3, 5, 9)
	for _, wrong := range wrongNets(n) {
		for _, line := range []string{"verify reach a", "verify reach q", "verify go a", "", "verify reach a port 16", "verify way a via b port x", strings.Repeat(" ", impl.MaxText)} {
			checkAskFault(t, wrong, line, impl.ErrBad)
		}
		checkAskFault(t, wrong, strings.Repeat(" ", impl.MaxText+1), impl.ErrLong)
	}
}

func TestLongAsks(t *testing.T) {
	n := netOf(t, askNet)
	const ask = "verify way a via port port 3 fail 1"
	blanks := strings.Repeat(" ", impl.MaxText-len(ask))
	want := impl.Property{Kind: 3, From: 0, Port: 3, Way: 2}
	for _, line := range []string{ask + blanks, blanks + ask, strings.Replace(ask, " ", " "+blanks, 1)} {
		checkAsk(t, n, line, want, 1)
		checkAskFault(t, n, line+" ", impl.ErrLong)
		checkAskFault(t, n, " "+line, impl.ErrLong)
	}
	for _, line := range []string{"x", "verify ", "\n", "verify reach a port 16 ", "verify reach q "} {
		many := strings.Repeat(line, impl.MaxText/len(line)+1)
		checkAskFault(t, n, many[:impl.MaxText+1], impl.ErrLong)
		checkAskFault(t, impl.Net{}, many[:impl.MaxText+1], impl.ErrLong)
		checkAskFault(t, impl.Net{}, many[:impl.MaxText], impl.ErrBad)
	}
	checkAskFault(t, n, strings.Repeat("x", impl.MaxText), impl.ErrSyntax)
	checkAskFault(t, n, "verify reach "+strings.Repeat("x", impl.MaxText-13), impl.ErrName)
	checkAskFault(t, n, strings.Repeat("x", 1<<20), impl.ErrLong)
}

// slowAsk lays down what is due at each place of a line, then looks for the first place at which something else stands.
func slowAsk(routers []string, words []string) (impl.Property, int, int) {
	at := func(place int) string {
		if place < len(words) {
			return words[place]
		}
		return ""
	}
	due := []string{"verify", "KIND", "FROM"}
	if at(1) == "way" {
		due = append(due, "via", "WAY")
	}
	for _, part := range []string{"port", "fail"} {
		if at(len(due)) == part {
			due = append(due, part, strings.ToUpper(part))
		}
	}
	found := map[string]int{"PORT": -1}
	for place, what := range due {
		code := impl.ErrSyntax
		switch word := at(place); what {
		case "KIND":
			found[what] = slices.Index([]string{"no kind", "reach", "never", "way", "own"}, word)
		case "FROM", "WAY":
			found[what] = slices.Index(routers, word)
			if word != "" {
				code = impl.ErrName
			}
		case "PORT", "FAIL":
			found[what] = -1
			if slowNumeral.MatchString(word) {
				code = impl.ErrRange
				number, _ := strconv.Atoi(word)
				if number <= map[string]int{"PORT": 15, "FAIL": 2}[what] {
					found[what] = number
				}
			}
		default:
			found[what] = strings.Compare(word, what)
			if found[what] != 0 {
				found[what] = -1
			}
		}
		if found[what] < 0 {
			return impl.Property{}, 0, code
		}
	}
	if len(words) > len(due) {
		return impl.Property{}, 0, impl.ErrSyntax
	}
	return impl.Property{Kind: found["KIND"], From: found["FROM"], Port: found["PORT"], Way: found["WAY"]}, found["FAIL"], 0
}

// someAsk is a question of a network of some routers; one in so many of its words is wrong.
func someAsk(r *rand.Rand, routers []string, wrong int) string {
	pick := func(right []string, others ...string) string {
		if len(right) == 0 || r.Intn(wrong) == 0 {
			return others[r.Intn(len(others))]
		}
		return right[r.Intn(len(right))]
	}
	name := func() string { return pick(routers, "q", "9", "", "via", "port", "#", "a b") }
	number := func(right ...string) string {
		return pick(right, "-1", "x", "01", "16", "3", "-0", "5 5", "", "15", "2", "100")
	}
	kind := pick([]string{"reach", "never", "way", "own"}, "go", "", "Reach", "via", "way way")
	words := []string{pick([]string{"verify"}, "Verify", "", "#", "show", "verify verify"), kind, name()}
	if kind == "way" || r.Intn(4*wrong) == 0 {
		words = append(words, pick([]string{"via"}, "", "by", "port"), name())
	}
	if r.Intn(2) == 0 {
		words = append(words, pick([]string{"port"}, "", "fail", "ports"), number("0", "5", "14", "15"))
	}
	if r.Intn(2) == 0 {
		words = append(words, pick([]string{"fail"}, "", "port", "fails"), number("0", "1", "2"))
	}
	if r.Intn(2*wrong) == 0 {
		i, j := r.Intn(len(words)), r.Intn(len(words))
		words[i], words[j] = words[j], words[i]
	}
	if r.Intn(2*wrong) == 0 {
		words = words[:r.Intn(len(words)+1)]
	}
	return strings.Join(words, " ")
}

func TestAsksWordByWord(t *testing.T) {
	r := chance()
	codes := map[int]int{}
	for range 200000 {
		n := netOf(t, []string{"router a", "router a\nrouter b\nlink a b", askNet, baseText}[r.Intn(4)])
		line := someAsk(r, n.Routers, 2+r.Intn(30))
		if r.Intn(3) == 0 {
			line = " " + strings.ReplaceAll(line, " ", "  ") + " "
		}
		want, wantK, wantCode := slowAsk(n.Routers, strings.FieldsFunc(line, func(c rune) bool { return c == ' ' }))
		codes[wantCode]++
		if p, k, code := impl.ReadAsk(n, line); code != wantCode || k != wantK || p != want {
			t.Fatalf("ReadAsk(%v, %q) = %v, %d, %d, not %v, %d, %d", n, line, p, k, code, want, wantK, wantCode)
		}
	}
	for _, code := range []int{0, impl.ErrSyntax, impl.ErrName, impl.ErrRange} {
		if codes[code] < 3000 {
			t.Errorf("codes %v: the test tells little", codes)
		}
	}
}

// TestAsksAreRight: what is read is a property that Verify takes.
func TestAsksAreRight(t *testing.T) {
	r := chance()
	for range 3000 {
		n := anyNet(r)
		p, k := someProperty(r, n), r.Intn(3)
		line := slowAskText(n, p, k)
		checkAsk(t, n, line, p, k)
		read, _, _ := impl.ReadAsk(n, line)
		if !impl.PropertyOK(n, read) {
			t.Fatalf("%q is read as %v of %v", line, read, n)
		}
	}
}
