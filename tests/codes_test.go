package tests

import (
	"math"
	"strings"
	"testing"

	"loop.example/g00159/impl"
)

// tableOfCodes is the document's table of codes.
var tableOfCodes = []struct {
	number, constant int
	word             string
}{
	{0, impl.OK, "ok"},
	{1, impl.ErrBad, "bad"},
	{2, impl.ErrLong, "long"},
	{3, impl.ErrForm, "form"},
	{4, impl.ErrSyntax, "syntax"},
	{5, impl.ErrRange, "range"},
	{6, impl.ErrNone, "none"},
	{7, impl.ErrMany, "many"},
	{8, impl.ErrState, "state"},
	{9, impl.ErrName, "name"},
	{10, impl.ErrTwice, "twice"},
	{11, impl.ErrSize, "size"},
	{12, impl.ErrLoop, "loop"},
}

func TestConstants(t *testing.T) {
	if impl.MaxText != 65536 || impl.MaxList != 4096 || impl.MaxName != 40 {
		t.Error("the limits of chapter 1")
	}
	if impl.MaxVars != 40 || impl.MaxClauses != 300 || impl.MaxWidth != 12 {
		t.Error("the limits of chapter 2")
	}
	if impl.MaxCount != 12 {
		t.Error("the limit of chapter 3")
	}
	if impl.MaxSteps != 200 {
		t.Error("the limit of chapter 4")
	}
	if impl.MaxInputs != 12 || impl.MaxEx != 400 || impl.MaxDepth != 40 {
		t.Error("the limits of chapter 5")
	}
	for i, kind := range []int{impl.ExVar, impl.ExConst, impl.ExNot, impl.ExAnd, impl.ExOr, impl.ExXor, impl.ExIte} {
		if kind != i+1 {
			t.Errorf("kind %d of chapter 5 is %d", i+1, kind)
		}
	}
	if impl.MaxBits != 6 {
		t.Error("the limit of chapter 6")
	}
	for i, kind := range []int{impl.WdConst, impl.WdVar, impl.WdAdd, impl.WdAnd, impl.WdMin} {
		if kind != i+1 {
			t.Errorf("kind %d of chapter 6 is %d", i+1, kind)
		}
	}
	if impl.MaxRouters != 4 || impl.MaxLinks != 6 || impl.MaxImports != 12 || impl.MaxFilters != 6 {
		t.Error("how much there is of each in chapter 7")
	}
	if impl.MaxCost != 100 || impl.MaxPref != 1000 || impl.MaxPort != 15 {
		t.Error("the limits of numbers in chapter 7")
	}
	if impl.WhAlways != 0 || impl.WhMark != 1 || impl.WhPlain != 2 || impl.DoDeny != 1 || impl.DoPref != 2 || impl.DoMark != 3 || impl.DoClear != 4 {
		t.Error("what an import does, and when, in chapter 7")
	}
	if impl.ViNone != -3 || impl.ViSelf != -2 || impl.ViExternal != -1 {
		t.Error("the Vias of chapter 8 that are no routers")
	}
	if impl.OcOwn != 1 || impl.OcOut != 2 || impl.OcNoRoute != 3 || impl.OcFilter != 4 {
		t.Error("the outcomes of chapter 9")
	}
	if impl.PrReach != 1 || impl.PrNever != 2 || impl.PrWay != 3 || impl.PrOwn != 4 || impl.MaxDown != 2 {
		t.Error("the properties of chapter 9, and the limit of links that are down")
	}
	if impl.MaxLines != 100 {
		t.Error("the limit of chapter 11")
	}
}

func TestCodesAndWords(t *testing.T) {
	for _, row := range tableOfCodes {
		if row.constant != row.number {
			t.Errorf("the constant of %q is %d", row.word, row.constant)
		}
		if got := impl.CodeWord(row.number); got != row.word {
			t.Errorf("CodeWord(%d) = %q", row.number, got)
		}
		if got := impl.CodeOf(row.word); got != row.number {
			t.Errorf("CodeOf(%q) = %d", row.word, got)
		}
	}
}

func TestNoSuchCode(t *testing.T) {
	for _, code := range []int{-1, 13, 14, 256, math.MinInt, math.MaxInt} {
		if got := impl.CodeWord(code); got != "" {
			t.Errorf("CodeWord(%d) = %q", code, got)
		}
	}
}

func TestNoSuchWord(t *testing.T) {
	long := strings.Repeat("ok", impl.MaxText)
	for _, word := range []string{"", " ", "o", "okay", "ok ", " ok", "OK", "Bad", "loops", "ErrBad", "0", "ok\x00", long} {
		if got := impl.CodeOf(word); got != -1 {
			t.Errorf("CodeOf(%.20q) = %d", word, got)
		}
	}
}

func TestNames(t *testing.T) {
	for _, name := range []string{
		"a", "z", "A", "Z", "_", "a0", "a9", "_1", "r_1", "Router7", "__",
		strings.Repeat("x", impl.MaxName), "_" + strings.Repeat("9", impl.MaxName-1),
	} {
		if !impl.NameOK(name) {
			t.Errorf("NameOK(%q) is false", name)
		}
	}
}

func TestNoNames(t *testing.T) {
	for _, name := range []string{
		"", "0", "9a", "-", "a-b", "a b", " a", "a ", "a.b", "a\n", "\x00", "a\x00", "é", "aé", "\xff",
		"@", "[", "`", "{", "a@", "a[", "a`", "a{", "a/", "a:",
		strings.Repeat("x", impl.MaxName+1), strings.Repeat("x", impl.MaxText), strings.Repeat("x", impl.MaxText+1),
	} {
		if impl.NameOK(name) {
			t.Errorf("NameOK(%.50q) is true", name)
		}
	}
}

// TestNamesByteByByte holds every byte, first and behind, against the document's sentence.
func TestNamesByteByByte(t *testing.T) {
	const letters = "abcdefghijklmnopqrstuvwxyzABCDEFGHIJKLMNOPQRSTUVWXYZ_"
	const digits = "0123456789"
	for b := range 256 {
		one := string([]byte{byte(b)})
		letter := strings.Contains(letters, one)
		if impl.NameOK(one) != letter {
			t.Errorf("NameOK(%q) is %v", one, !letter)
		}
		if behind := letter || strings.Contains(digits, one); impl.NameOK("a"+one) != behind {
			t.Errorf("NameOK(%q) is %v", "a"+one, !behind)
		}
	}
}
