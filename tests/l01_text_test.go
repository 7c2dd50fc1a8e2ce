package tests

import (
	"math"
	"math/big"
	"regexp"
	"slices"
	"strings"
	"testing"

	"loop.example/g00560/impl"
)

// allTexts tells every text of at most most bytes of an alphabet, the shortest first.
func allTexts(alphabet string, most int) []string {
	all := []string{""}
	begin := 0
	for range most {
		end := len(all)
		for _, head := range all[begin:end] {
			for i := range len(alphabet) {
				all = append(all, head+alphabet[i:i+1])
			}
		}
		begin = end
	}
	return all
}

func allBytes() string {
	all := make([]byte, 256)
	for i := range all {
		all[i] = byte(i)
	}
	return string(all)
}

func TestMaxText(t *testing.T) {
	if impl.MaxText != 4000 {
		t.Error(impl.MaxText)
	}
}

func TestDecText(t *testing.T) {
	cases := map[int]string{
		0: "0", 7: "7", -7: "-7", 10: "10", -120: "-120", 999999999: "999999999", 1000000000: "1000000000",
		math.MaxInt: "9223372036854775807", math.MinInt: "-9223372036854775808",
	}
	for n, want := range cases {
		if got := impl.DecText(n); got != want {
			t.Errorf("DecText(%d) = %q", n, got)
		}
	}
}

func TestReadDec(t *testing.T) {
	cases := map[string]int{
		"0": 0, "7": 7, "10": 10, "100": 100, "999999999": 999999999, "123456789": 123456789,
		"1000000000": -1, "9999999999": -1, "18446744073709551617": -1, "00": -1, "007": -1, "01": -1, "000000000": -1,
		"": -1, "-": -1, "-1": -1, "-0": -1, "+1": -1, " 1": -1, "1 ": -1, "1\n": -1, "1a": -1, "a": -1, "0x1": -1,
		"1/": -1, "1:": -1, "1_0": -1, "1.0": -1, "\x00": -1, "\xff": -1, "1\xff": -1, "\u0661": -1, "\uff11": -1,
	}
	for s, want := range cases {
		if got := impl.ReadDec(s); got != want {
			t.Errorf("ReadDec(%q) = %d", s, got)
		}
	}
}

func TestReadDecTakesDecTextBack(t *testing.T) {
	for n := range 3000 {
		for _, m := range []int{n, n * 333333, 999999999 - n} {
			if got := impl.ReadDec(impl.DecText(m)); got != m {
				t.Errorf("%d comes back as %d", m, got)
			}
		}
		if got := impl.ReadDec(impl.DecText(1000000000 + n)); got != -1 {
			t.Errorf("%d is beyond what is read, but is %d", 1000000000+n, got)
		}
	}
	for _, s := range allTexts("019-+ a", 4) {
		if n := impl.ReadDec(s); n != -1 && impl.DecText(n) != s {
			t.Errorf("ReadDec(%q) = %d", s, n)
		}
	}
}

func TestLowerUpper(t *testing.T) {
	cases := []struct{ s, lower, upper string }{
		{"", "", ""},
		{"aB@Z[", "ab@z[", "AB@Z["},
		{"`az{AZ", "`az{az", "`AZ{AZ"},
		{"Az09_ \n", "az09_ \n", "AZ09_ \n"},
		{"\u00c4\u00e4A", "\u00c4\u00e4a", "\u00c4\u00e4A"},
		{"\xc4A\xe4a\xff", "\xc4a\xe4a\xff", "\xc4A\xe4A\xff"},
		{"\u212aK\u017fs", "\u212ak\u017fs", "\u212aK\u017fS"},
	}
	for _, c := range cases {
		if impl.Lower(c.s) != c.lower || impl.Upper(c.s) != c.upper {
			t.Errorf("%q: %q %q", c.s, impl.Lower(c.s), impl.Upper(c.s))
		}
	}
	all := []byte(allBytes())
	lower, upper := impl.Lower(string(all)), impl.Upper(string(all))
	for i, b := range all {
		low, up := b, b
		if b >= 65 && b <= 90 {
			low = b + 32
		}
		if b >= 97 && b <= 122 {
			up = b - 32
		}
		if lower[i] != low || upper[i] != up {
			t.Errorf("byte %d: %d %d", b, lower[i], upper[i])
		}
	}
}

func TestLines(t *testing.T) {
	cases := []struct {
		s    string
		want []string
	}{
		{"", nil},
		{"\n", []string{""}},
		{"\n\n", []string{"", ""}},
		{"a", []string{"a"}},
		{"a\n", []string{"a"}},
		{"a\nb", []string{"a", "b"}},
		{"a\n\nb", []string{"a", "", "b"}},
		{"\na", []string{"", "a"}},
		{"a\n\n", []string{"a", ""}},
		{"a\r\nb\x00\xff\n ", []string{"a\r", "b\x00\xff", " "}},
	}
	for _, c := range cases {
		if got := impl.Lines(c.s); !slices.Equal(got, c.want) {
			t.Errorf("Lines(%q) = %q", c.s, got)
		}
	}
}

func TestLinesArePutTogetherAgain(t *testing.T) {
	for _, s := range allTexts("\na\xc3", 6) {
		lines := impl.Lines(s)
		again := strings.Join(lines, "\n")
		if strings.HasSuffix(s, "\n") {
			again += "\n"
		}
		if again != s {
			t.Errorf("Lines(%q) = %q", s, lines)
		}
		for _, line := range lines {
			if strings.Contains(line, "\n") {
				t.Errorf("Lines(%q) = %q", s, lines)
			}
		}
	}
}

func TestWords(t *testing.T) {
	cases := []struct {
		s    string
		want []string
	}{
		{"", nil},
		{" ", nil},
		{"\t \t", nil},
		{"a", []string{"a"}},
		{"  a \tbc ", []string{"a", "bc"}},
		{"\ta\t\tb", []string{"a", "b"}},
		{"a\nb c\r\v\fd", []string{"a\nb", "c\r\v\fd"}},
		{"\n", []string{"\n"}},
		{"a\u00a0b\u2003c \xff", []string{"a\u00a0b\u2003c", "\xff"}},
		{"\x00 \x1f!", []string{"\x00", "\x1f!"}},
	}
	for _, c := range cases {
		if got := impl.Words(c.s); !slices.Equal(got, c.want) {
			t.Errorf("Words(%q) = %q", c.s, got)
		}
	}
}

func TestWordsAreAllThatIsNotBlank(t *testing.T) {
	for _, s := range allTexts(" \ta\n", 6) {
		words := impl.Words(s)
		want := regexp.MustCompile("[^ \t]+").FindAllString(s, -1)
		if !slices.Equal(words, want) {
			t.Errorf("Words(%q) = %q", s, words)
		}
	}
}

func TestCut(t *testing.T) {
	cases := []struct {
		s    string
		b    byte
		want []string
	}{
		{"", ',', []string{""}},
		{"", 0, []string{""}},
		{",", ',', []string{"", ""}},
		{",,", ',', []string{"", "", ""}},
		{"a", ',', []string{"a"}},
		{"a,,b,", ',', []string{"a", "", "b", ""}},
		{",a", ',', []string{"", "a"}},
		{"a b", ' ', []string{"a", "b"}},
		{"a\nb\n", '\n', []string{"a", "b", ""}},
		{"a\x00b", 0, []string{"a", "b"}},
		{"a\xffb\xff", 255, []string{"a", "b", ""}},
		{"\u00e4\u00f6", 0xc3, []string{"", "\xa4", "\xb6"}},
		{"\u00e4x", 0xa4, []string{"\xc3", "x"}},
		{"\ufffd", 0xfd, []string{"\xef\xbf\xbd"}},
	}
	for _, c := range cases {
		if got := impl.Cut(c.s, c.b); !slices.Equal(got, c.want) {
			t.Errorf("Cut(%q, %d) = %q", c.s, c.b, got)
		}
	}
}

func TestCutIsPutTogetherAgain(t *testing.T) {
	texts := append(allTexts(",a\xc3\xa4\n", 5), allBytes()+allBytes())
	for _, s := range texts {
		for b := range 256 {
			mark := string([]byte{byte(b)})
			parts := impl.Cut(s, byte(b))
			if strings.Join(parts, mark) != s || len(parts) != strings.Count(s, mark)+1 {
				t.Fatalf("Cut(%q, %d) = %q", s, b, parts)
			}
		}
	}
}

func TestIndexOf(t *testing.T) {
	cases := []struct {
		s, t string
		want int
	}{
		{"banana", "ana", 2}, {"banana", "banana", 1}, {"banana", "a", 2}, {"banana", "na", 3}, {"aab", "ab", 2},
		{"banana", "x", 0}, {"banana", "bananas", 0}, {"a", "aa", 0}, {"banana", "anb", 0}, {"b", "B", 0},
		{"", "", 0}, {"a", "", 1}, {"banana", "", 1}, {"", "a", 0},
		{"\u00e4b", "b", 3}, {"\u00e4b", "\xa4", 2}, {"a\x00b", "\x00b", 2}, {"\xfe\xff", "\xff", 2},
	}
	for _, c := range cases {
		if got := impl.IndexOf(c.s, c.t); got != c.want {
			t.Errorf("IndexOf(%q, %q) = %d", c.s, c.t, got)
		}
	}
}

func TestIndexOfIsTheFirstPlace(t *testing.T) {
	texts := allTexts("ab", 6)
	for _, s := range texts {
		for _, sought := range allTexts("ab", 4) {
			want := 0
			for place := len(s); place >= 1; place-- {
				if strings.HasPrefix(s[place-1:], sought) {
					want = place
				}
			}
			if got := impl.IndexOf(s, sought); got != want {
				t.Errorf("IndexOf(%q, %q) = %d, not %d", s, sought, got, want)
			}
		}
	}
}

func TestSubstr(t *testing.T) {
	cases := []struct {
		s          string
		from, many int
		want       string
	}{
		{"hello", 1, 5, "hello"}, {"hello", 2, 3, "ell"}, {"hello", 5, 1, "o"}, {"hello", 5, 9, "o"}, {"hello", 6, 1, ""},
		{"hello", 0, 2, "h"}, {"hello", 0, 1, ""}, {"hello", -1, 3, "h"}, {"hello", -1, 2, ""}, {"hello", -9, 100, "hello"},
		{"hello", 2, 0, ""}, {"hello", 2, -1, ""}, {"hello", 0, 0, ""}, {"", 1, 1, ""}, {"", 0, 5, ""}, {"", 0, 0, ""},
		{"\u00e4b", 2, 1, "\xa4"}, {"a\x00b", 2, 2, "\x00b"},
		{"hello", 3, math.MaxInt, "llo"}, {"hello", math.MaxInt, math.MaxInt, ""}, {"hello", math.MinInt, math.MinInt, ""},
		{"hello", math.MinInt, math.MaxInt, ""}, {"hello", 1, math.MinInt, ""}, {"hello", -math.MaxInt, math.MaxInt, ""},
		{"hello", 3 - math.MaxInt, math.MaxInt, "he"}, {"hello", 0, math.MaxInt, "hello"}, {"", math.MinInt, math.MaxInt, ""},
	}
	for _, c := range cases {
		if got := impl.Substr(c.s, c.from, c.many); got != c.want {
			t.Errorf("Substr(%q, %d, %d) = %q", c.s, c.from, c.many, got)
		}
	}
}

func TestSubstrCountsWithoutBounds(t *testing.T) {
	numbers := []int{}
	for n := -8; n <= 8; n++ {
		numbers = append(numbers, n)
	}
	for n := range 9 {
		numbers = append(numbers, math.MinInt+n, math.MaxInt-n, math.MinInt/2+n-4, math.MaxInt/2+n-4)
	}
	for _, s := range []string{"", "a", "hello"} {
		for _, from := range numbers {
			for _, many := range numbers {
				end := new(big.Int).Add(big.NewInt(int64(from)), big.NewInt(int64(many)))
				want := ""
				for place := 1; place <= len(s); place++ {
					if place >= from && big.NewInt(int64(place)).Cmp(end) < 0 {
						want += s[place-1 : place]
					}
				}
				if got := impl.Substr(s, from, many); got != want {
					t.Errorf("Substr(%q, %d, %d) = %q, not %q", s, from, many, got, want)
				}
			}
		}
	}
}

func TestQuote(t *testing.T) {
	cases := []struct{ s, want string }{
		{"", `""`},
		{"abc", `"abc"`},
		{`"`, `"\""`},
		{`\`, `"\\"`},
		{"\n", `"\n"`},
		{"\t", `"\t"`},
		{"\x00\x01\x07\x08\x0b\x0d\x1f", `"\000\001\007\010\013\015\037"`},
		{" !~/'", `" !~/'"`},
		{"\x7f\x80\xc0\xff", `"\177\200\300\377"`},
		{"\u00e4", `"\303\244"`},
		{"\ufffd", `"\357\277\275"`},
		{"a1\x011", `"a1\0011"`},
		{`\n`, `"\\n"`},
	}
	for _, c := range cases {
		if got := impl.Quote(c.s); got != c.want {
			t.Errorf("Quote(%q) = %s", c.s, got)
		}
	}
}

func TestEveryByteInAQuote(t *testing.T) {
	digits := "01234567"
	for n := range 256 {
		s := string([]byte{byte(n)})
		octal := "\\" + string([]byte{digits[n/64], digits[n/8%8], digits[n%8]})
		want := octal
		switch {
		case n == 10:
			want = "\\n"
		case n == 9:
			want = "\\t"
		case n == 34 || n == 92:
			want = "\\" + s
		case n >= 32 && n <= 126:
			want = s
		}
		if got := impl.Quote(s); got != `"`+want+`"` {
			t.Errorf("byte %d is quoted as %s", n, got)
		}
		for _, told := range []string{octal, s, "\\" + s} {
			text, next := impl.Unquote(`"`+told+`"`, 0)
			if told == want && (text != s || next != len(told)+2) {
				t.Errorf("%q is not taken: %q %d", told, text, next)
			}
			if told != want && n != 34 && told != "\\n" && told != "\\t" && (text != "" || next != -1) {
				t.Errorf("%q is taken: %q %d", told, text, next)
			}
		}
	}
}

func TestTextsComeBackFromTheirQuotes(t *testing.T) {
	texts := append(allTexts("\"\\\n\tn0a\x01\xff", 4), allBytes(), allBytes()+allBytes(), strings.Repeat("\"", 5000))
	for first := range 256 {
		for second := range 256 {
			texts = append(texts, string([]byte{byte(first), byte(second)}))
		}
	}
	for _, s := range texts {
		quote := impl.Quote(s)
		for _, tail := range []string{"", "\"", "x\"", "\\"} {
			for _, head := range []string{"", "\"", "\\", "ab"} {
				text, next := impl.Unquote(head+quote+tail, len(head))
				if text != s || next != len(head)+len(quote) {
					t.Fatalf("%q comes back as %q, %d", s, text, next)
				}
			}
		}
	}
}

func TestUnquote(t *testing.T) {
	cases := []struct {
		s    string
		i    int
		text string
		next int
	}{
		{`""`, 0, "", 2},
		{`"a"`, 0, "a", 3},
		{`x"a\n\377"y`, 1, "a\n\xff", 10},
		{`"a""b"`, 0, "a", 3},
		{`"a""b"`, 2, "", 4},
		{`"a""b"`, 3, "b", 6},
		{`"\\"`, 0, `\`, 4},
		{`"\\\""x`, 0, `\"`, 6},
		{`"\0011"`, 0, "\x011", 7},
		{`"\000\037\177\200\377"`, 0, "\x00\x1f\x7f\x80\xff", 22},
	}
	for _, c := range cases {
		if text, next := impl.Unquote(c.s, c.i); text != c.text || next != c.next {
			t.Errorf("Unquote(%q, %d) = %q, %d", c.s, c.i, text, next)
		}
	}
}

func TestUnquoteRefuses(t *testing.T) {
	cases := []string{
		"", "a", "a\"\"", "\\\"", // no quote begins
		`"`, `"a`, `"\`, `"\"`, `"\\\"`, `"\1`, `"\12`, `"\001`, `"a\377`, // none ends
		`"\101"`, `"\042"`, `"\134"`, `"\040"`, `"\176"`, `"\060"`, // needless
		`"\012"`, `"\011"`, // a newline and a byte 9 have escapes of their own
		`"\400"`, `"\777"`, `"\401"`, `"\1"`, `"\12"`, `"\18"`, `"\008"`, `"\08"`, `"\00"`, `"\ 01"`, `"\-01"`, `"\+01"`,
		`"\x"`, `"\x01"`, `"\r"`, `"\a"`, `"\/"`, `"\'"`, `"\N"`, `"\T"`, `"\u0001"`, `"\ "`,
		"\"\n\"", "\"\t\"", "\"\x00\"", "\"\x1f\"", "\"\x7f\"", "\"\x80\"", "\"\xff\"", "\"\u00e4\"",
		"\"\\\n\"", "\"\\\t\"", "\"\\\xff\"", "\"\\\u00e4\u00e4\"", "\"\\00\u0661\"",
		`"ab\q"`, `"ok\101`, `"\001\101"`,
	}
	for _, s := range cases {
		if text, next := impl.Unquote(s, 0); text != "" || next != -1 {
			t.Errorf("Unquote(%q, 0) = %q, %d", s, text, next)
		}
	}
	for _, i := range []int{-1, -2, 1, 2, 4, 5, 6, 7, 100, math.MaxInt, math.MinInt} {
		if text, next := impl.Unquote(`"ab""`, i); text != "" || next != -1 {
			t.Errorf("Unquote at %d = %q, %d", i, text, next)
		}
	}
	if text, next := impl.Unquote("", math.MinInt); text != "" || next != -1 {
		t.Error(text, next)
	}
}

func TestUnquoteTakesQuotesAlone(t *testing.T) {
	quote := regexp.MustCompile(`^"([ !#-\[\]-~]|\\["\\nt]|\\(00[0-7]|01[03-7]|0[23][0-7]|177|[23][0-7][0-7]))*"`)
	texts := append(allTexts("\"\\n0127", 6), allTexts("\"\\a\n\x7f\xff 2", 5)...)
	for _, body := range texts {
		s := `"` + body
		text, next := impl.Unquote(s, 0)
		want := quote.FindString(s)
		if want == "" && (text != "" || next != -1) {
			t.Fatalf("Unquote(%q, 0) = %q, %d", s, text, next)
		}
		if want != "" && (next != len(want) || impl.Quote(text) != want) {
			t.Fatalf("Unquote(%q, 0) = %q, %d", s, text, next)
		}
	}
}

func TestNameOk(t *testing.T) {
	cases := map[string]bool{
		"a": true, "Z": true, "_": true, "_a1": true, "a_B9": true, "NF": true, "z0": true, "A": true, "__": true, "_1": true,
		"abcdefghijklmnopqrst": true, "abcdefghijklmnopqrstu": false, "a2345678901234567890": true, "a23456789012345678901": false,
		"": false, "1": false, "1a": false, "9_": false, "a-b": false, "a b": false, " a": false, "a ": false, "a\n": false,
		"a.": false, "$a": false, "a@": false, "a[": false, "a`": false, "a{": false, "a/": false, "a:": false,
		"\u00e4": false, "a\u00e4": false, "a\xff": false, "\xff": false, "a\x00": false, "\x00": false, "a\u0661": false,
		"\u00e4\u00e4\u00e4\u00e4\u00e4\u00e4\u00e4\u00e4\u00e4\u00e4": false,
	}
	for s, want := range cases {
		if got := impl.NameOk(s); got != want {
			t.Errorf("NameOk(%q) = %v", s, got)
		}
	}
}

func TestEveryByteInAName(t *testing.T) {
	letter := regexp.MustCompile(`^[A-Za-z_]$`)
	digit := regexp.MustCompile(`^[0-9]$`)
	for n := range 256 {
		s := string([]byte{byte(n)})
		if impl.NameOk(s) != letter.MatchString(s) {
			t.Errorf("byte %d first", n)
		}
		if impl.NameOk("a"+s) != (letter.MatchString(s) || digit.MatchString(s)) {
			t.Errorf("byte %d behind another one", n)
		}
	}
}

// Promise 17: a list that is answered is the caller's alone, so writing into
// one leaves what is answered later as it was.
func TestListsOfTextsAreNew(t *testing.T) {
	lists := []func() []string{
		func() []string { return impl.Lines("a\nb\n") },
		func() []string { return impl.Words(" a b ") },
		func() []string { return impl.Cut("a,b", ',') },
	}
	for i, list := range lists {
		first := list()
		for j := range first {
			first[j] = "changed"
		}
		_ = append(first, "more")
		if second := list(); !slices.Equal(second, []string{"a", "b"}) {
			t.Errorf("list %d: %q", i, second)
		}
	}
}

func TestTextsOfEverySizeAreAnswered(t *testing.T) {
	for _, n := range []int{impl.MaxText - 1, impl.MaxText, impl.MaxText + 1, 100000} {
		for _, unit := range []string{"a", " ", "\n", "\"", "\\", "\xff", "1"} {
			s := strings.Repeat(unit, n)
			if len(impl.Lower(s)) != n || len(impl.Upper(s)) != n || impl.Substr(s, 1, n) != s || impl.IndexOf(s, s) != 1 {
				t.Errorf("%d of %q", n, unit)
			}
			if text, next := impl.Unquote(impl.Quote(s), 0); text != s || next != len(impl.Quote(s)) {
				t.Errorf("quote of %d of %q", n, unit)
			}
			if strings.Join(impl.Cut(s, unit[0]), unit) != s || impl.ReadDec(s) != -1 || impl.NameOk(s) {
				t.Errorf("%d of %q", n, unit)
			}
		}
	}
}
