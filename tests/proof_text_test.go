package tests

import (
	"math"
	"strings"
	"testing"

	"loop.example/g00159/impl"
)

// Tests of the texts of proofs.

func TestProofText(t *testing.T) {
	for _, c := range []struct {
		steps []impl.Step
		text  string
	}{
		{nil, ""},
		{[]impl.Step{}, ""},
		{[]impl.Step{step()}, "0\n"},
		{[]impl.Step{removal()}, "d 0\n"},
		{[]impl.Step{step(40, -1, 40), removal(-40, 2), step(), step(7)}, "40 -1 40 0\nd -40 2 0\n0\n7 0\n"},
		{[]impl.Step{step(repeated(1, impl.MaxWidth)...)}, strings.Repeat("1 ", impl.MaxWidth) + "0\n"},
		{repeatedStep(step(), impl.MaxSteps), strings.Repeat("0\n", impl.MaxSteps)},
	} {
		if text, code := impl.ProofText(c.steps); code != 0 || text != c.text {
			t.Errorf("ProofText(%v) = %q, %d", c.steps, text, code)
		}
	}
}

func TestProofTextFaults(t *testing.T) {
	for _, c := range []struct {
		steps []impl.Step
		code  int
	}{
		{[]impl.Step{step(0)}, impl.ErrBad},
		{[]impl.Step{step(1), removal(41)}, impl.ErrBad},
		{[]impl.Step{step(1, -41)}, impl.ErrBad},
		{[]impl.Step{step(math.MinInt)}, impl.ErrBad},
		{[]impl.Step{removal(math.MaxInt)}, impl.ErrBad},
		{[]impl.Step{step(repeated(1, impl.MaxWidth+1)...)}, impl.ErrBad},
		{repeatedStep(step(), impl.MaxSteps+1), impl.ErrBad},
		{repeatedStep(step(0), impl.MaxList), impl.ErrBad},
		{repeatedStep(step(0), impl.MaxList+1), impl.ErrLong},
		{repeatedStep(step(), impl.MaxList+1), impl.ErrLong},
	} {
		if text, code := impl.ProofText(c.steps); code != c.code || text != "" {
			t.Errorf("ProofText of %d steps = %q, %d, not %d", len(c.steps), text, code, c.code)
		}
	}
}

func checkRead(t *testing.T, text string, want []impl.Step) {
	t.Helper()
	if steps, code, at := impl.ReadProof(text); code != 0 || at != 0 || !sameSteps(steps, want) {
		t.Fatalf("ReadProof(%q) = %v, %d, %d, not %v", text, steps, code, at, want)
	}
}

func TestReadProof(t *testing.T) {
	checkRead(t, "", nil)
	checkRead(t, "\n \r\n\t\n", nil)
	checkRead(t, "c 1 2\n c\n", nil)
	checkRead(t, "0", []impl.Step{step()})
	checkRead(t, "d 0", []impl.Step{removal()})
	checkRead(t, "\r\n\t1  -40\r 1 \t0 \r\n\n d\t2 0\nc d 3\n0\n", []impl.Step{step(1, -40, 1), removal(2), step()})
	checkRead(t, "c\n0\nc x\n-1 0\nc", []impl.Step{step(), step(-1)})
	checkRead(t, strings.Repeat("-40 ", impl.MaxWidth)+"0", []impl.Step{step(repeated(-40, impl.MaxWidth)...)})
	checkRead(t, "d "+strings.Repeat("7 ", impl.MaxWidth)+"0", []impl.Step{removal(repeated(7, impl.MaxWidth)...)})
	// Lines that say nothing are no steps.
	most := strings.Repeat("c\n\n0\n", impl.MaxSteps)
	checkRead(t, most, repeatedStep(step(), impl.MaxSteps))
	checkRead(t, most+"c 0\n \n", repeatedStep(step(), impl.MaxSteps))
}

func TestProofTextIsReadAsTheSteps(t *testing.T) {
	r := chance()
	for range 2000 {
		var steps []impl.Step
		for range r.Intn(12) {
			steps = append(steps, impl.Step{Delete: r.Intn(2) == 0, Clause: someClause(r, impl.MaxVars, impl.MaxWidth)})
		}
		text, code := impl.ProofText(steps)
		if code != 0 {
			t.Fatalf("ProofText(%v): %d", steps, code)
		}
		checkRead(t, text, steps)
		loose := "c\n\n " + strings.ReplaceAll(strings.ReplaceAll(text, " ", "\r \t"), "\n", " \r\n\nc 1\n\t")
		checkRead(t, loose, steps)
	}
	greatest := repeatedStep(removal(repeated(-40, impl.MaxWidth)...), impl.MaxSteps)
	text, code := impl.ProofText(greatest)
	if code != 0 || len(text) != impl.MaxSteps*(4+4*impl.MaxWidth) {
		t.Fatal("ProofText of the greatest proof", len(text), code)
	}
	checkRead(t, text, greatest)
}

// TestRefutationIsReadAndChecked goes from a formula to a text, and from that to a proof that checks.
func TestRefutationIsReadAndChecked(t *testing.T) {
	r := chance()
	read := 0
	for range 1000 {
		f := threes(r, 8, 60)
		steps, code := impl.Refutation(f)
		if code != 0 {
			continue
		}
		text, _ := impl.ProofText(steps)
		back, code, at := impl.ReadProof(text)
		if code != 0 || at != 0 {
			t.Fatalf("ReadProof(%q): %d, %d", text, code, at)
		}
		checkProof(t, f, back, len(steps)-1, 0)
		read++
	}
	if read < 200 {
		t.Errorf("only %d were read: the test tells nothing", read)
	}
}

// checkProofFaults takes texts with an "@" at the place of the fault, as checkFaults does.
func checkProofFaults(t *testing.T, faults []fault) {
	t.Helper()
	for _, c := range faults {
		place := strings.Index(c.text, "@")
		text := strings.Replace(c.text, "@", "", 1)
		if steps, code, at := impl.ReadProof(text); code != c.code || at != place || len(steps) != 0 {
			t.Errorf("ReadProof(%q) = %v, %d, %d, not %d, %d", text, steps, code, at, c.code, place)
		}
	}
}

func TestReadProofFaults(t *testing.T) {
	checkProofFaults(t, []fault{
		// A word that should be a number's text.
		{"@x", impl.ErrSyntax},
		{"0\n@x 0", impl.ErrSyntax},
		{"1 @-0", impl.ErrSyntax},
		{"@00", impl.ErrSyntax},
		{"@+1 0", impl.ErrSyntax},
		{"@01 0", impl.ErrSyntax},
		{"@- 0", impl.ErrSyntax},
		{"@D 1 0", impl.ErrSyntax},
		{"@d1 0", impl.ErrSyntax},
		{"@cc 0", impl.ErrSyntax},
		{"@p cnf 1 1", impl.ErrSyntax},
		{"d @d 0", impl.ErrSyntax},
		{"1 @d 0", impl.ErrSyntax},
		{"d @c 0", impl.ErrSyntax},
		{"1 @c 0", impl.ErrSyntax},
		{"@1\x0b0", impl.ErrSyntax},
		{"@" + strings.Repeat("1", 19) + " 0", impl.ErrSyntax},
		// A word behind 0, whatever it is.
		{"1 0 @2", impl.ErrSyntax},
		{"0 @0", impl.ErrSyntax},
		{"d 0 @x 41", impl.ErrSyntax},
		{"0 @41", impl.ErrSyntax},
		{"0 @c", impl.ErrSyntax},
		{"0\n0\t@d ", impl.ErrSyntax},
		// The end of a line without 0.
		{"1 2@", impl.ErrSyntax},
		{"1 2@\n0", impl.ErrSyntax},
		{"1 2 \r@\n0\n", impl.ErrSyntax},
		{" 1 2 \t @", impl.ErrSyntax},
		{"d@", impl.ErrSyntax},
		{"d@\n0\n", impl.ErrSyntax},
		{"d 1 @\n0\n", impl.ErrSyntax},
		{"c\n0\n-1@\n\nc", impl.ErrSyntax},
		// A variable above MaxVars.
		{"@41 0", impl.ErrRange},
		{"0\n1 @-41", impl.ErrRange},
		{"d @" + strings.Repeat("9", 18) + " x", impl.ErrRange},
		{"d 40 -40 @-" + strings.Repeat("9", 18), impl.ErrRange},
		// What is met first.
		{"@x 41", impl.ErrSyntax},
		{"@41 x", impl.ErrRange},
		{"1@\n41 0", impl.ErrSyntax},
		{"@41\nx", impl.ErrRange},
	})
}

func TestReadProofTooMuch(t *testing.T) {
	twelve := strings.Repeat("1 ", impl.MaxWidth)
	most := strings.Repeat("1 0\n", impl.MaxSteps)
	checkProofFaults(t, []fault{
		{twelve + "@1 0", impl.ErrSize},
		{twelve + "@-2", impl.ErrSize},
		{twelve + "@1 x", impl.ErrSize},
		{"d " + twelve + "@1 0", impl.ErrSize},
		{"0\n" + twelve + "\t@40\n41 0", impl.ErrSize},
		{twelve + "@41 0", impl.ErrRange},
		{twelve + "@x 0", impl.ErrSyntax},
		{twelve + "0 @1", impl.ErrSyntax},
		{twelve + "@", impl.ErrSyntax},
		{most + "@0", impl.ErrMany},
		{most + "c\n\n \t@d 1 0\n", impl.ErrMany},
		{most + "@1 0\nx", impl.ErrMany},
		{most + "@" + twelve + "0\n0\n", impl.ErrMany},
		// A line's own faults come first, even those at its end.
		{most + "@x 0", impl.ErrSyntax},
		{most + "1 0 @0", impl.ErrSyntax},
		{most + "1 2@", impl.ErrSyntax},
		{most + "d@\n0", impl.ErrSyntax},
		{most + "1 @41 0", impl.ErrRange},
		{most + twelve + "@1 0", impl.ErrSize},
	})
}

// TestReadProofFaultAtAnyWord puts one wrong word into a right text, and looks for just that place.
func TestReadProofFaultAtAnyWord(t *testing.T) {
	r := chance()
	for range 2000 {
		var steps []impl.Step
		for range 1 + r.Intn(5) {
			steps = append(steps, impl.Step{Delete: r.Intn(2) == 0, Clause: someClause(r, impl.MaxVars, 4)})
		}
		text, _ := impl.ProofText(steps)
		var places []int
		for i := range len(text) {
			if (i == 0 || text[i-1] == ' ' || text[i-1] == '\n') && text[i] != 'd' {
				places = append(places, i)
			}
		}
		place := places[r.Intn(len(places))]
		end := place + strings.Index(text[place:], "\n")
		checkProofFaults(t, []fault{
			{text[:place] + "@x " + text[place:], impl.ErrSyntax},
			{text[:place] + "@41 " + text[place:], impl.ErrRange},
			{text[:end] + " @1" + text[end:], impl.ErrSyntax},
			{text[:end-1] + "7@" + text[end:], impl.ErrSyntax},
		})
	}
}
