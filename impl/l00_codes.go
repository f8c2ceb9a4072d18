package impl

import "strings"

const (
	MaxText = 65536
	MaxList = 4096
	MaxName = 40

	OK        = 0
	ErrBad    = 1
	ErrLong   = 2
	ErrForm   = 3
	ErrSyntax = 4
	ErrRange  = 5
	ErrNone   = 6
	ErrMany   = 7
	ErrState  = 8
	ErrName   = 9
	ErrTwice  = 10
	ErrSize   = 11
	ErrLoop   = 12
)

// maxDigits keeps every number's text within 64 bits, so that reading one never wraps.
const maxDigits = 18

// codeWords has each code's word at the code's number.
var codeWords = [13]string{
	"ok", "bad", "long", "form", "syntax", "range", "none",
	"many", "state", "name", "twice", "size", "loop",
}

// NameOK tells whether t is a name.
func NameOK(t string) bool {
	if len(t) == 0 || len(t) > MaxName {
		return false
	}
	for i := range len(t) {
		if !isNameLetter(t[i]) && (i == 0 || !isDigit(t[i])) {
			return false
		}
	}
	return true
}

// CodeWord answers the word of a code, the empty text for any other number.
func CodeWord(code int) string {
	if code < 0 || code >= len(codeWords) {
		return ""
	}
	return codeWords[code]
}

// CodeOf answers the code of a word, -1 for any other text.
func CodeOf(word string) int {
	for code, w := range codeWords {
		if w == word {
			return code
		}
	}
	return -1
}

func isNameLetter(b byte) bool {
	return 'a' <= b && b <= 'z' || 'A' <= b && b <= 'Z' || b == '_'
}

func isDigit(b byte) bool {
	return '0' <= b && b <= '9'
}

// numberOf answers the number that t is the text of, and whether it is one.
func numberOf(t string) (int, bool) {
	digits, negative := strings.CutPrefix(t, "-")
	if len(digits) == 0 || len(digits) > maxDigits {
		return 0, false
	}
	// Every number has one text only: a nought leads just in "0" itself.
	if digits[0] == '0' && t != "0" {
		return 0, false
	}
	n := 0
	for i := range len(digits) {
		if !isDigit(digits[i]) {
			return 0, false
		}
		n = 10*n + int(digits[i]-'0')
	}
	if negative {
		n = -n
	}
	return n, true
}
