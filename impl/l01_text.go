package impl

import (
	"iter"
	"slices"
	"strconv"
	"strings"
)

const MaxText = 4000

const (
	maxDecDigits = 9
	maxName      = 20
	caseStep     = 'a' - 'A'
)

func DecText(n int) string { return strconv.Itoa(n) }

func ReadDec(s string) int {
	if s == "" || len(s) > maxDecDigits || s[0] == '0' && s != "0" {
		return -1
	}
	n := 0
	for _, sign := range s {
		if !isDigit(sign) {
			return -1
		}
		n = n*10 + int(sign-'0')
	}
	return n
}

func Lower(s string) string { return shiftLetters(s, 'A', 'Z', caseStep) }

func Upper(s string) string { return shiftLetters(s, 'a', 'z', -caseStep) }

func shiftLetters(s string, first rune, last rune, step rune) string {
	out := []byte(s)
	for i, sign := range s {
		if first <= sign && sign <= last {
			out[i] = byte(sign + step)
		}
	}
	return string(out)
}

func Lines(s string) []string {
	lines := Cut(s, '\n')
	last := len(lines) - 1
	if lines[last] == "" {
		return lines[:last]
	}
	return lines
}

func Words(s string) []string {
	words := []string{}
	for part := range partsOf(s, ' ', '\t') {
		if part != "" {
			words = append(words, part)
		}
	}
	return words
}

func Cut(s string, b byte) []string { return slices.Collect(partsOf(s, b)) }

// partsOf goes through s by bytes: a range over the text itself would pass over
// a mark that is a byte inside a longer sign.
func partsOf(s string, marks ...byte) iter.Seq[string] {
	return func(yield func(string) bool) {
		begin := 0
		for i := range len(s) {
			if !slices.Contains(marks, s[i]) {
				continue
			}
			if !yield(s[begin:i]) {
				return
			}
			begin = i + 1
		}
		yield(s[begin:])
	}
}

func IndexOf(s string, t string) int {
	if s == "" {
		return 0
	}
	return strings.Index(s, t) + 1
}

func Substr(s string, from int, many int) string {
	if many <= 0 || from > len(s) {
		return ""
	}
	if from < 1 {
		// One of both is above 0 and one is not, so the sum cannot overflow.
		many = many + from - 1
		from = 1
	}
	// What is left of s is compared with many, since from+many may overflow.
	left := len(s) - from + 1
	return s[from-1 : from-1+max(0, min(many, left))]
}

func Quote(s string) string {
	out := []byte{'"'}
	for i := range len(s) {
		out = append(out, quoteByte(s[i])...)
	}
	return string(append(out, '"'))
}

func quoteByte(b byte) string {
	switch {
	case b == '"' || b == '\\':
		return string([]byte{'\\', b})
	case b == '\n':
		return "\\n"
	case b == '\t':
		return "\\t"
	case b < 32 || b >= 127:
		return string([]byte{'\\', '0' + b>>6, '0' + b>>3&7, '0' + b&7})
	}
	return string([]byte{b})
}

func Unquote(s string, i int) (string, int) {
	if i < 0 || i >= len(s) || s[i] != '"' {
		return "", -1
	}
	out := []byte{}
	at := i + 1
	for at < len(s) && s[at] != '"' {
		b, size := readQuoted(s[at:])
		// Quote writes each byte in one way; any other spelling of it is no quote.
		if size == 0 || quoteByte(b) != s[at:at+size] {
			return "", -1
		}
		out = append(out, b)
		at += size
	}
	if at == len(s) {
		return "", -1
	}
	return string(out), at + 1
}

// readQuoted tells the byte that a text that is not empty begins with, and how
// many bytes tell it; 0 of these where it begins with none.
func readQuoted(s string) (byte, int) {
	if s[0] != '\\' {
		return s[0], 1
	}
	if len(s) < 2 {
		return 0, 0
	}
	switch s[1] {
	case '"', '\\':
		return s[1], 2
	case 'n':
		return '\n', 2
	case 't':
		return '\t', 2
	}
	return readOctal(s)
}

func readOctal(s string) (byte, int) {
	if len(s) < 4 {
		return 0, 0
	}
	n := rune(0)
	for _, sign := range s[1:4] {
		if sign < '0' || sign > '7' {
			return 0, 0
		}
		n = n*8 + sign - '0'
	}
	if n > 255 {
		return 0, 0
	}
	return byte(n), 4
}

func NameOk(s string) bool {
	if s == "" || len(s) > maxName {
		return false
	}
	for i, sign := range s {
		if !isNameSign(sign) || i == 0 && isDigit(sign) {
			return false
		}
	}
	return true
}

func isNameSign(sign rune) bool {
	return 'a' <= sign && sign <= 'z' || 'A' <= sign && sign <= 'Z' || sign == '_' || isDigit(sign)
}

func isDigit(sign rune) bool { return '0' <= sign && sign <= '9' }
