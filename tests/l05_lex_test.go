package tests

import (
	"math"
	"math/rand"
	"regexp"
	"slices"
	"strconv"
	"strings"
	"testing"

	"loop.example/g00560/impl"
)

func wNum(n int) impl.Token { return impl.Token{Kind: impl.TNum, N: n} }

func wStr(s string) impl.Token { return impl.Token{Kind: impl.TStr, Text: s} }

func wRe(s string) impl.Token { return impl.Token{Kind: impl.TRe, Text: s} }

func wName(s string) impl.Token { return impl.Token{Kind: impl.TName, Text: s} }

func wKey(s string) impl.Token { return impl.Token{Kind: impl.TKey, Text: s} }

func wSign(s string) impl.Token { return impl.Token{Kind: impl.TSign, Text: s} }

func wEnd() impl.Token { return impl.Token{Kind: impl.TEnd} }

// words puts words into a list, all of them without their lines.
func words(list ...impl.Token) []impl.Token {
	plain := []impl.Token{}
	for _, w := range list {
		w.Line = 0
		plain = append(plain, w)
	}
	return plain
}

func allKeys() []string {
	return []string{"BEGIN", "END", "if", "else", "while", "for", "in", "next", "exit", "delete", "print", "printf"}
}

func allSigns() []string {
	return strings.Fields("++ -- += -= *= /= %= == <= >= != && || !~ { } ( ) [ ] , + - * / % ^ ! < > ~ ? : = $")
}

func checkWords(t *testing.T, s string, want ...impl.Token) {
	t.Helper()
	if list, bad := impl.Lex(s); bad != 0 || !slices.Equal(words(list...), want) {
		t.Errorf("Lex(%.200q) = %v, %d, not %v", s, list, bad, want)
	}
}

func checkNoWords(t *testing.T, s string, line int) {
	t.Helper()
	if list, bad := impl.Lex(s); bad != line || len(list) != 0 {
		t.Errorf("Lex(%.200q) = %v, %d, not %d", s, list, bad, line)
	}
}

// Forms of what a text begins with, each one as long as may be.
var (
	spaceForm  = regexp.MustCompile(`^([ \t]+|#[^\n]*)`)
	nameForm   = regexp.MustCompile(`^[A-Za-z_][A-Za-z0-9_]*`)
	numForm    = regexp.MustCompile(`^[0-9]+(\.[0-9]+)?`)
	strForm    = regexp.MustCompile(`^"([ !#-\[\]-~]|\\["\\nt]|\\(00[0-7]|01[03-7]|0[23][0-7]|177|[23][0-7][0-7]))*"`)
	strokeForm = regexp.MustCompile(`^/(([^/\n\\]|\\+[^\n\\])*)/`)
	signForm   = regexp.MustCompile(`^([-+*/%=<>!]=|\+\+|--|&&|\|\||!~|[{}()\[\],+\-*/%^!<>~?:=$])`)
)

func divides(ahead impl.Token) bool {
	switch ahead.Kind {
	case impl.TNum, impl.TStr, impl.TRe, impl.TName:
		return true
	case impl.TSign:
		return slices.Contains([]string{")", "]", "++", "--"}, ahead.Text)
	}
	return false
}

// wantedWord tells the first word of a text that begins with neither a blank
// nor a comment, and how many bytes it has; 0 where there is none.
func wantedWord(s string, stroke bool) (impl.Token, int) {
	if name := nameForm.FindString(s); name != "" {
		switch {
		case slices.Contains(allKeys(), name):
			return wKey(name), len(name)
		case len(name) <= 20:
			return wName(name), len(name)
		}
		return impl.Token{}, 0
	}
	if digits := numForm.FindString(s); digits != "" {
		n, size := wantedNumber(digits)
		return wNum(n), size
	}
	if quote := strForm.FindString(s); quote != "" {
		text, _ := strconv.Unquote(quote)
		return wStr(text), len(quote)
	}
	if s[0] == '/' && stroke {
		found := strokeForm.FindStringSubmatch(s)
		if found == nil {
			return impl.Token{}, 0
		}
		return wRe(found[1]), len(found[0])
	}
	if s[0] == ';' || s[0] == '\n' {
		return wEnd(), 1
	}
	sign := signForm.FindString(s)
	return wSign(sign), len(sign)
}

// wantedLex tells what Lex answers, by the forms of the words.
func wantedLex(s string) ([]impl.Token, int) {
	if len(s) > 4000 {
		return nil, 1
	}
	list := []impl.Token{}
	for at := 0; at < len(s); {
		if space := spaceForm.FindString(s[at:]); space != "" {
			at += len(space)
			continue
		}
		word, size := wantedWord(s[at:], len(list) == 0 || !divides(list[len(list)-1]))
		word.Line = 1 + strings.Count(s[:at], "\n")
		if size == 0 {
			return nil, word.Line
		}
		list = append(list, word)
		at += size
	}
	return list, 0
}

func checkLex(t *testing.T, s string) {
	t.Helper()
	want, wantBad := wantedLex(s)
	list, bad := impl.Lex(s)
	if bad != wantBad || !slices.Equal(list, want) {
		t.Fatalf("Lex(%.200q) = %v, %d, not %v, %d", s, list, bad, want, wantBad)
	}
	checkWordsComeBack(t, want)
}

// checkWordsComeBack is promise 5. A line is where a word stood, so it need not
// come back: of ; a newline is written.
func checkWordsComeBack(t *testing.T, list []impl.Token) {
	t.Helper()
	texts := []string{}
	for _, w := range list {
		texts = append(texts, impl.TokenText(w))
	}
	for _, blanks := range []string{" ", "\t", "  \t"} {
		s := strings.Join(texts, blanks)
		if len(s) > impl.MaxText {
			continue
		}
		if again, bad := impl.Lex(s); bad != 0 || !slices.Equal(words(again...), words(list...)) {
			t.Fatalf("%v come back from %.200q as %v, %d", list, s, again, bad)
		}
	}
}

func TestKindsOfWords(t *testing.T) {
	kinds := []int{impl.TNum, impl.TStr, impl.TRe, impl.TName, impl.TKey, impl.TSign, impl.TEnd}
	if !slices.Equal(kinds, []int{0, 1, 2, 3, 4, 5, 6}) {
		t.Error(kinds)
	}
}

func TestIsKey(t *testing.T) {
	keys := allKeys()
	for _, key := range keys {
		if !impl.IsKey(key) {
			t.Errorf("%q is a key", key)
		}
		others := []string{key[1:], key[:len(key)-1], "_" + key, key + " ", " " + key, key + "\n", key + "\x00", key + "0", key + key, strings.ToUpper(key), strings.ToLower(key), strings.ToUpper(key[:1]) + strings.ToLower(key[1:])}
		for _, other := range others {
			if impl.IsKey(other) != slices.Contains(keys, other) {
				t.Errorf("IsKey(%q) = %v", other, impl.IsKey(other))
			}
		}
	}
	for _, s := range []string{"", " ", "a", "f", "i", "do", "function", "return", "getline", "break", "continue", "length", "substr", "NF", "printff", "sprintf", "Begin", "begin", "end", "IF", "{", "\xff", strings.Repeat("in", 50000)} {
		if impl.IsKey(s) {
			t.Errorf("IsKey(%.100q)", s)
		}
	}
}

func TestLexOfNothing(t *testing.T) {
	for _, s := range []string{"", " ", "\t", " \t \t", "#", "# a @ \" / \\", " \t#\t\x00\xff\r", "#" + strings.Repeat("#", 99)} {
		checkWords(t, s, words()...)
	}
}

func TestLexOfAProgram(t *testing.T) {
	list, bad := impl.Lex("BEGIN { FS = \",\" } # of commas\n\n$2 / 4 >= 1.50 { n++; a[$1] = /x/ }\n\tEND{print n}")
	want := []impl.Token{
		{Kind: impl.TKey, Text: "BEGIN", Line: 1}, {Kind: impl.TSign, Text: "{", Line: 1}, {Kind: impl.TName, Text: "FS", Line: 1}, {Kind: impl.TSign, Text: "=", Line: 1}, {Kind: impl.TStr, Text: ",", Line: 1}, {Kind: impl.TSign, Text: "}", Line: 1}, {Kind: impl.TEnd, Line: 1},
		{Kind: impl.TEnd, Line: 2},
		{Kind: impl.TSign, Text: "$", Line: 3}, {Kind: impl.TNum, N: 2000000, Line: 3}, {Kind: impl.TSign, Text: "/", Line: 3}, {Kind: impl.TNum, N: 4000000, Line: 3}, {Kind: impl.TSign, Text: ">=", Line: 3}, {Kind: impl.TNum, N: 1500000, Line: 3},
		{Kind: impl.TSign, Text: "{", Line: 3}, {Kind: impl.TName, Text: "n", Line: 3}, {Kind: impl.TSign, Text: "++", Line: 3}, {Kind: impl.TEnd, Line: 3}, {Kind: impl.TName, Text: "a", Line: 3}, {Kind: impl.TSign, Text: "[", Line: 3}, {Kind: impl.TSign, Text: "$", Line: 3}, {Kind: impl.TNum, N: 1000000, Line: 3}, {Kind: impl.TSign, Text: "]", Line: 3}, {Kind: impl.TSign, Text: "=", Line: 3}, {Kind: impl.TRe, Text: "x", Line: 3}, {Kind: impl.TSign, Text: "}", Line: 3}, {Kind: impl.TEnd, Line: 3},
		{Kind: impl.TKey, Text: "END", Line: 4}, {Kind: impl.TSign, Text: "{", Line: 4}, {Kind: impl.TKey, Text: "print", Line: 4}, {Kind: impl.TName, Text: "n", Line: 4}, {Kind: impl.TSign, Text: "}", Line: 4},
	}
	if bad != 0 || !slices.Equal(list, want) {
		t.Error(list, bad)
	}
}

func TestLexOfKeysAndNames(t *testing.T) {
	for _, key := range allKeys() {
		checkWords(t, key, wKey(key))
		checkWords(t, key+" "+key, wKey(key), wKey(key))
		for _, name := range []string{key + "a", key + "_", key + "1", "a" + key, "_" + key, key + "Z"} {
			checkWords(t, name, wName(name))
		}
		checkWords(t, "1"+key, wNum(impl.One), wKey(key))
		for _, name := range []string{key[1:], key[:len(key)-1]} {
			if !slices.Contains(allKeys(), name) {
				checkWords(t, name, wName(name))
			}
		}
	}
	for _, name := range []string{"a", "_", "Z9", "__", "x1", "NF", "length", "inx", "If", "abcdefghijklmnopqrst", "_2345678901234567890"} {
		checkWords(t, name, wName(name))
		checkWords(t, "("+name+")", wSign("("), wName(name), wSign(")"))
	}
	for _, s := range []string{"abcdefghijklmnopqrstu", "_23456789012345678901", strings.Repeat("in", 11), strings.Repeat("a", 200)} {
		checkNoWords(t, s, 1)
		checkNoWords(t, "a\n"+s, 2)
		checkNoWords(t, "a "+s+" b", 1)
	}
	checkWords(t, "1abcdefghijklmnopqrst", wNum(impl.One), wName("abcdefghijklmnopqrst"))
	checkNoWords(t, "1abcdefghijklmnopqrstu", 1)
}

func TestLexOfNumbers(t *testing.T) {
	cases := map[string]int{
		"0": 0, "7": 7000000, "007": 7000000, "12": 12000000, "1.5": 1500000, "1.50": 1500000, "0.000001": 1, "00.10": 100000, "0.0": 0,
		"1000000": impl.MaxNum, "1000000.0": impl.MaxNum, "999999.999999": impl.MaxNum - 1, "1.1234569": 1123456, "0.0000009": 0, "1000000.0000009": impl.MaxNum,
		strings.Repeat("0", 60): 0, strings.Repeat("0", 59) + "3": 3000000, "2." + strings.Repeat("0", 58): 2000000,
	}
	for s, n := range cases {
		checkWords(t, s, wNum(n))
		checkWords(t, "a="+s+"x", wName("a"), wSign("="), wNum(n), wName("x"))
		checkWords(t, s+"-"+s, wNum(n), wSign("-"), wNum(n))
	}
	none := []string{
		"1000001", "1000000.000001", "9999999999999999999999", "18446744073709551616", "1000001.5",
		strings.Repeat("0", 61), "2." + strings.Repeat("0", 59), strings.Repeat("9", 3000),
		".", ".5", "1.", "1.a", "1. 5", "1 .5", "1..5", "1.5.", "1.5.5", "1.-5", "1.\n", ".a", "a.b", "$.5", "1.e5", "1,.5", "1./2",
	}
	for _, s := range none {
		checkNoWords(t, s, 1)
		checkNoWords(t, "\n"+s, 2)
		checkNoWords(t, "1 "+s, 1)
	}
	checkWords(t, "1e5", wNum(impl.One), wName("e5"))
	checkWords(t, "0x1", wNum(0), wName("x1"))
	checkWords(t, "1_0", wNum(impl.One), wName("_0"))
	checkWords(t, "-1 +2", wSign("-"), wNum(impl.One), wSign("+"), wNum(2*impl.One))
	checkWords(t, "1 5", wNum(impl.One), wNum(5*impl.One))
	checkWords(t, "1.5 2.25", wNum(1500000), wNum(2250000))
}

func TestLexOfTexts(t *testing.T) {
	cases := map[string]string{
		`""`: "", `"a"`: "a", `"a b"`: "a b", `"a\nb\t"`: "a\nb\t", `"\""`: `"`, `"\\"`: `\`, `"\377\000"`: "\xff\x00", `"#"`: "#", `"/"`: "/", `";"`: ";", `"in"`: "in", `"1"`: "1", `"\001"`: "\x01", `"\\n"`: `\n`,
	}
	for s, text := range cases {
		checkWords(t, s, wStr(text))
		checkWords(t, s+s, wStr(text), wStr(text))
		checkWords(t, "a"+s+"1", wName("a"), wStr(text), wNum(impl.One))
	}
	none := []string{
		`"`, `"a`, `"\"`, `"\`, `"\\\"`, `"a""`, `a"`, // no end
		`"\q"`, `"\/"`, `"\1"`, `"\101"`, `"\012"`, `"\011"`, `"\400"`, `"\x41"`, `"\r"`, `"a\ "`, `"\'"`, // escapes that are none
		"\"\t\"", "\"\x00\"", "\"\r\"", "\"\x7f\"", "\"\xff\"", "\"\u00e4\"", "\"a\nb\"", "\"a\n\"", "\"\n", "\"a\\\nb\"", // bytes that have an escape
	}
	for _, s := range none {
		checkNoWords(t, s, 1)
		checkNoWords(t, "a\n\n"+s, 3)
		checkNoWords(t, s+"\n@", 1)
	}
	checkWords(t, `"a" # "b`, wStr("a"))
	checkNoWords(t, `'a'`, 1)
	checkNoWords(t, "`a`", 1)
}

// samples tells words of each Kind as they are written, and as they are.
func samples() map[string]impl.Token {
	all := map[string]impl.Token{
		"0": wNum(0), "12": wNum(12 * impl.One), "1.5": wNum(1500000),
		`""`: wStr(""), `"a"`: wStr("a"), `"/"`: wStr("/"),
		"a": wName("a"), "_": wName("_"), "if0": wName("if0"), "length": wName("length"),
		";": wEnd(), "\n": wEnd(),
	}
	for _, key := range allKeys() {
		all[key] = wKey(key)
	}
	for _, sign := range allSigns() {
		all[sign] = wSign(sign)
	}
	return all
}

func TestStrokesBehindEachWord(t *testing.T) {
	for s, w := range samples() {
		if strings.HasPrefix(s, "/") {
			continue
		}
		for _, space := range []string{" ", "\t", "  \t "} {
			if divides(w) {
				checkWords(t, s+space+"/b/ c", w, wSign("/"), wName("b"), wSign("/"), wName("c"))
				checkWords(t, s+space+"/b c", w, wSign("/"), wName("b"), wName("c"))
				checkWords(t, s+space+"/=b/", w, wSign("/="), wName("b"), wSign("/"))
				checkWords(t, s+space+"/", w, wSign("/"))
				checkWords(t, s+space+"/ /b/ /c/", w, wSign("/"), wRe("b"), wSign("/"), wName("c"), wSign("/"))
				continue
			}
			checkWords(t, s+space+"/b/ c", w, wRe("b"), wName("c"))
			checkWords(t, s+space+"/=b/ / 2", w, wRe("=b"), wSign("/"), wNum(2*impl.One))
			checkWords(t, s+space+"//", w, wRe(""))
			bad := 1 + strings.Count(s, "\n")
			checkNoWords(t, s+space+"/b c", bad)
			checkNoWords(t, s+space+"/=b", bad)
			checkNoWords(t, s+space+"/", bad)
		}
	}
	checkWords(t, "a /b/ /c/", wName("a"), wSign("/"), wName("b"), wSign("/"), wRe("c"))
	checkWords(t, "a / /b/", wName("a"), wSign("/"), wRe("b"))
	checkWords(t, "a /= /b/", wName("a"), wSign("/="), wRe("b"))
	checkWords(t, "/a/ /b/", wRe("a"), wSign("/"), wName("b"), wSign("/"))
	checkWords(t, "/a//b/", wRe("a"), wSign("/"), wName("b"), wSign("/"))
	checkWords(t, "/a/ /=/b/", wRe("a"), wSign("/="), wRe("b"))
	checkWords(t, "a++/b/c", wName("a"), wSign("++"), wSign("/"), wName("b"), wSign("/"), wName("c"))
	checkWords(t, "a+++/b/", wName("a"), wSign("++"), wSign("+"), wRe("b"))
	checkWords(t, "a--/b", wName("a"), wSign("--"), wSign("/"), wName("b"))
	checkWords(t, "++ /b", wSign("++"), wSign("/"), wName("b"))
	checkWords(t, "a+/b/", wName("a"), wSign("+"), wRe("b"))
}

func TestStrokesAtTheBeginning(t *testing.T) {
	checkWords(t, "/a/", wRe("a"))
	checkWords(t, " \t/a/", wRe("a"))
	checkWords(t, "//", wRe(""))
	checkWords(t, "/=/", wRe("="))
	checkWords(t, "/ /", wRe(" "))
	checkWords(t, "/#\"@\t\x00\xff\r/ a", wRe("#\"@\t\x00\xff\r"), wName("a"))
	checkWords(t, "/[/]/", wRe("["), wSign("]"), wSign("/"))
	for _, s := range []string{"/", "/=", "/a", "/a/ @", "/a #/\n@"} {
		bad := 1 + strings.Count(s, "\n")
		checkNoWords(t, s, bad)
	}
}

func TestStrokesBehindNewlinesAndComments(t *testing.T) {
	checkWords(t, "a\n/b/", wName("a"), wEnd(), wRe("b"))
	checkWords(t, "a;/b/", wName("a"), wEnd(), wRe("b"))
	checkWords(t, "a\n/b/2", wName("a"), wEnd(), wRe("b"), wNum(2*impl.One))
	checkWords(t, "a # c\n/b/", wName("a"), wEnd(), wRe("b"))
	checkWords(t, "# c\n/b/", wEnd(), wRe("b"))
	checkWords(t, "# /\n/b/", wEnd(), wRe("b"))
	checkWords(t, "a # /b/", wName("a"))
	checkWords(t, "a /b # /", wName("a"), wSign("/"), wName("b"))
	checkWords(t, "a\n \t\n/b/", wName("a"), wEnd(), wEnd(), wRe("b"))
	checkNoWords(t, "a\n/b", 2)
	checkNoWords(t, "a # c\n/b", 2)
	checkNoWords(t, "a\n/b\n/", 2)
	checkNoWords(t, "# /b/\n/b", 2)
}

func TestStrokesWithABackslash(t *testing.T) {
	cases := map[string]string{
		`/a\/b/`: `a\/b`, `/\//`: `\/`, `/\/\//`: `\/\/`, `/a\\/b/`: `a\\/b`, `/\\\/b/`: `\\\/b`, `/\a/`: `\a`, `/a\\b/`: `a\\b`, `/\./`: `\.`, `/\"/`: `\"`,
	}
	for s, text := range cases {
		checkWords(t, s, wRe(text))
		checkWords(t, "a~"+s+"/2", wName("a"), wSign("~"), wRe(text), wSign("/"), wNum(2*impl.One))
	}
	for _, s := range []string{`/\/`, `/a\/`, `/a\\/`, `/\/\/`, "/a\\/\n/", "/a\\\n/", `/\`, `/a\`, "/a\\/b\n/"} {
		checkNoWords(t, s, 1)
		checkNoWords(t, "(\n"+s, 2)
	}
	checkNoWords(t, `a \/b/`, 1)
}

func TestStrokesThatDoNotEnd(t *testing.T) {
	for _, s := range []string{"/", "/a", "/a b ;", "/a # b", "/=", "/a\n", "/a\n/", "/\n/", "/\n", "/a\nb/", "/a\n# /", "/ \"a\""} {
		checkNoWords(t, s, 1)
		checkNoWords(t, "BEGIN"+s, 1)
		checkNoWords(t, ";\n\n"+s, 3)
		checkNoWords(t, "a ~ /b/\n"+s+"\n\n@", 2)
	}
}

func TestLexOfEachSign(t *testing.T) {
	for _, sign := range allSigns() {
		if !strings.HasPrefix(sign, "/") {
			checkWords(t, sign, wSign(sign))
		}
		checkWords(t, "a "+sign, wName("a"), wSign(sign))
		checkWords(t, "a"+sign+"b", wName("a"), wSign(sign), wName("b"))
		checkWords(t, "1"+sign+"\"b\"", wNum(impl.One), wSign(sign), wStr("b"))
		checkWords(t, "a "+sign+" "+"b", wName("a"), wSign(sign), wName("b"))
	}
	for _, first := range allSigns() {
		for _, second := range allSigns() {
			checkLex(t, "a "+first+second)
			checkLex(t, "a "+first+second+"b/ c")
			checkLex(t, first+second)
			checkLex(t, "a "+first+" "+second+" b/")
		}
	}
}

func TestLexOfTheLongestSign(t *testing.T) {
	cases := map[string]string{
		"+++": "++ +", "++++": "++ ++", "++=": "++ =", "+==": "+= =", "---": "-- -", "--=": "-- =", "-==": "-= =", "+-": "+ -", "-+": "- +", "*==": "*= =", "**": "* *", "**=": "* *=", "%==": "%= =", "===": "== =", "====": "== ==", "<==": "<= =", "<<=": "< <=", "=<": "= <", "=>": "= >", ">==": ">= =", ">>": "> >", "!==": "!= =", "!!=": "! !=", "!~~": "!~ ~", "!!~": "! !~", "~!": "~ !", "~=": "~ =", "^=": "^ =", "&&&&": "&& &&", "||||": "|| ||", "<>": "< >", "!=~": "!= ~", "!~=": "!~ =", "=!~": "= !~", "==~": "== ~", "$$": "$ $", "?:": "? :", "({[]})": "( { [ ] } )", ",,": ", ,", "/==": "/= =", "//=": "/ /=",
	}
	for s, parts := range cases {
		want := words(wName("a"))
		for _, sign := range strings.Fields(parts) {
			want = append(want, wSign(sign))
		}
		if s == "//=" { // the second stroke begins an expression
			checkNoWords(t, "a"+s, 1)
			continue
		}
		checkWords(t, "a"+s, want...)
	}
	for _, s := range []string{"&", "|", "&&&", "|||", "& &", "| |", "&|", "&=", "|=", "a&b", "a|b", "a && & b"} {
		checkNoWords(t, s, 1)
		checkNoWords(t, "\n"+s, 2)
	}
}

func TestLexOfComments(t *testing.T) {
	checkWords(t, "a#", wName("a"))
	checkWords(t, "a#b", wName("a"))
	checkWords(t, "a #b", wName("a"))
	checkWords(t, "1#2", wNum(impl.One))
	checkWords(t, "+#+", wSign("+"))
	checkWords(t, "a#b\nc", wName("a"), wEnd(), wName("c"))
	checkWords(t, "a\n#b\nc", wName("a"), wEnd(), wEnd(), wName("c"))
	checkWords(t, "#\n#\n#", wEnd(), wEnd())
	checkWords(t, "#;a\n;", wEnd(), wEnd())
	checkWords(t, "a # \"\n\"b\"", wName("a"), wEnd(), wStr("b"))
	checkWords(t, "a # b # c\nd", wName("a"), wEnd(), wName("d"))
	checkWords(t, "a # @&\x00\xff\r\\\nb", wName("a"), wEnd(), wName("b"))
	checkWords(t, "# a \\\nb", wEnd(), wName("b"))
	checkWords(t, "a\t#\t\n\tb", wName("a"), wEnd(), wName("b"))
	checkNoWords(t, "# a\n@", 2)
	checkNoWords(t, "a # b\n\n#\n @ # c", 4)
}

func TestLexOfEnds(t *testing.T) {
	list, bad := impl.Lex(";\n;;\n\n a;b # c;\n;")
	want := []impl.Token{
		{Kind: impl.TEnd, Line: 1}, {Kind: impl.TEnd, Line: 1},
		{Kind: impl.TEnd, Line: 2}, {Kind: impl.TEnd, Line: 2}, {Kind: impl.TEnd, Line: 2},
		{Kind: impl.TEnd, Line: 3},
		{Kind: impl.TName, Text: "a", Line: 4}, {Kind: impl.TEnd, Line: 4}, {Kind: impl.TName, Text: "b", Line: 4}, {Kind: impl.TEnd, Line: 4},
		{Kind: impl.TEnd, Line: 5},
	}
	if bad != 0 || !slices.Equal(list, want) {
		t.Error(list, bad)
	}
	checkWords(t, "\n", wEnd())
	checkWords(t, ";", wEnd())
	checkWords(t, " ; \t\n\t;", wEnd(), wEnd(), wEnd())
	checkWords(t, "a;", wName("a"), wEnd())
	checkNoWords(t, "\r\n", 1)
	checkNoWords(t, "a\r\nb", 1)
	checkNoWords(t, "a\n\rb", 2)
}

// Each byte, alone and between words, where it may stand and where not.
func TestLexOfEachByte(t *testing.T) {
	starts := " \t\n\"#$%&()*+,-/0123456789:;<=>?ABCDEFGHIJKLMNOPQRSTUVWXYZ[]^_abcdefghijklmnopqrstuvwxyz{|}~!"
	for n := range 256 {
		s := string([]byte{byte(n)})
		alone := strings.Contains(starts, s) && !strings.Contains("\"&/|", s)
		if _, bad := impl.Lex(s); (bad == 0) != alone || bad > 1 {
			t.Errorf("byte %d alone: %d", n, bad)
		}
		if !strings.Contains(starts, s) {
			for _, text := range []string{s, "a" + s, "a " + s + " b", " " + s, s + s, "1" + s, "+" + s, "\"a\"" + s, "(" + s + ")"} {
				checkNoWords(t, text, 1)
				checkNoWords(t, "a;\n#\n"+text, 3)
			}
		}
		checkLex(t, s)
		for second := range 256 {
			pair := s + string([]byte{byte(second)})
			checkLex(t, pair)
			checkLex(t, "a "+pair+" b/")
			checkLex(t, "\n"+pair)
		}
	}
}

// Texts of all bytes of some alphabets, against the forms of the words.
func TestLexOfAllShortTexts(t *testing.T) {
	alphabets := []struct {
		signs string
		most  int
	}{
		{"a/\\\n 1", 6}, {"a1_.", 6}, {"a\"\\n1/\n", 5}, {"#a\n ;/", 6}, {"+-*/%=<>!&|~", 4}, {"ifn \n", 6}, {"/=a)(+", 6}, {"1.0 \t", 6}, {"a/\"#\r\t", 5},
	}
	for _, alphabet := range alphabets {
		for _, s := range allTexts(alphabet.signs, alphabet.most) {
			checkLex(t, s)
		}
	}
	for _, s := range allTexts("+-*/%=<>!&|~", 3) {
		checkLex(t, "a"+s)
		checkLex(t, "a"+s+"b")
		checkLex(t, "if"+s+"/b/")
	}
}

func TestLexOfMadeTexts(t *testing.T) {
	from := rand.New(rand.NewSource(5))
	parts := []string{" ", " ", "\t", "\n", ";", "# c", "# c\n", "/", "/b/", `/a\/b/`, "/=", `"s"`, `"\n"`, `"`, "a", "x1", "1", "2.5", ".", "in", "BEGIN", "print", "\\", "abcdefghijklmnopqrstu", "1000001", "&", "|"}
	for w := range samples() {
		parts = append(parts, w)
	}
	slices.Sort(parts)
	for range 40000 {
		s := ""
		for range from.Intn(12) {
			s += parts[from.Intn(len(parts))]
		}
		checkLex(t, s)
		checkLex(t, s+"\n"+s)
	}
	bytes := allBytes()
	for range 20000 {
		s := ""
		for range 1 + from.Intn(4) {
			at := from.Intn(len(bytes))
			s += parts[from.Intn(len(parts))] + bytes[at:at+1]
		}
		checkLex(t, s)
	}
}

// Promise 5, for words that are put together here: each three of them where a
// stroke may stand.
func TestWordsComeBack(t *testing.T) {
	all := []impl.Token{}
	for _, w := range samples() {
		all = append(all, w)
	}
	all = append(all, wRe(""), wRe("a"), wRe(`\/ "#;`), wStr("\n\t\"\\\x00\xff/#"), wNum(1), wNum(impl.MaxNum), wNum(impl.MaxNum-1), wName("abcdefghijklmnopqrst"))
	follows := func(ahead impl.Token, w impl.Token) bool {
		if w.Kind == impl.TRe {
			return !divides(ahead)
		}
		return w.Kind != impl.TSign || w.Text[0] != '/' || divides(ahead)
	}
	none := wEnd() // behind it stands what may stand at the beginning
	for _, first := range all {
		for _, second := range all {
			for _, third := range all {
				if follows(none, first) && follows(first, second) && follows(second, third) {
					checkWordsComeBack(t, words(first, second, third))
				}
			}
		}
	}
}

func TestWordsOfEachNumberAndTextComeBack(t *testing.T) {
	for _, n := range someNumbers() {
		if n >= 0 {
			checkWordsComeBack(t, words(wNum(n), wNum(n)))
		}
	}
	for n := range 256 {
		s := string([]byte{byte(n)})
		checkWordsComeBack(t, words(wStr(s), wStr(s+s)))
		if s != "/" && s != "\\" && s != "\n" {
			checkWordsComeBack(t, words(wSign("~"), wRe(s), wSign("~"), wRe("\\"+s)))
		}
	}
}

func TestWordsComeBackInAtMostMaxText(t *testing.T) {
	// 1333 names and the blanks behind them have 2666 bytes, the text 1334.
	list := words(wStr(strings.Repeat("a", impl.MaxText-2666-2)))
	for range 1333 {
		list = append(list, wName("b"))
	}
	texts := []string{}
	for _, w := range list {
		texts = append(texts, impl.TokenText(w))
	}
	s := strings.Join(texts, " ")
	if len(s) != impl.MaxText {
		t.Fatal(len(s))
	}
	checkWords(t, s, list...)
	checkNoWords(t, s+" ", 1)
	checkWordsComeBack(t, list)
}

func TestLexOfMaxText(t *testing.T) {
	most := impl.MaxText
	list, bad := impl.Lex(strings.Repeat("\n", most))
	if bad != 0 || len(list) != most {
		t.Fatal(len(list), bad)
	}
	for i, w := range list {
		if w != (impl.Token{Kind: impl.TEnd, Line: i + 1}) {
			t.Fatal(i, w)
		}
	}
	long := map[string]int{
		strings.Repeat("a ", most/2): most / 2, strings.Repeat("1;", most/2): most, strings.Repeat("+", most): most / 2, strings.Repeat(" ", most): 0, strings.Repeat("#", most): 0, strings.Repeat("(", most): most,
		`"` + strings.Repeat("b", most-2) + `"`: 1, "/" + strings.Repeat("b", most-2) + "/": 1, strings.Repeat("\t", most-1) + "a": 1,
	}
	for s, many := range long {
		if list, bad := impl.Lex(s); bad != 0 || len(list) != many || len(s) != most {
			t.Errorf("%.20q of %d bytes: %d words, %d", s, len(s), len(list), bad)
		}
		checkNoWords(t, s+" ", 1)
		checkNoWords(t, s+"\n", 1)
		checkNoWords(t, "\n"+s, 1)
		checkNoWords(t, "\n\n"+s+"@", 1)
	}
	checkNoWords(t, strings.Repeat("\n", most-1)+"@", most)
	checkNoWords(t, strings.Repeat("\n", most)+"@", 1)
	for _, size := range []int{most - 1, most, most + 1, 100000} {
		for n := range 256 {
			s := strings.Repeat(string([]byte{byte(n)}), size)
			list, bad := impl.Lex(s)
			want, wantBad := wantedLex(s)
			if bad != wantBad || !slices.Equal(list, want) {
				t.Errorf("%d of byte %d: %d words, %d", size, n, len(list), bad)
			}
		}
	}
}

func TestTokenText(t *testing.T) {
	cases := []struct {
		w    impl.Token
		want string
	}{
		{wNum(0), "0"}, {wNum(1500000), "1.5"}, {wNum(-1), "-0.000001"}, {wNum(impl.MaxNum), "1000000"}, {wNum(impl.MaxNum + 1), ""}, {wNum(math.MinInt), ""},
		{wStr(""), `""`}, {wStr("a\n\"\xff"), `"a\n\"\377"`},
		{wRe(""), "//"}, {wRe("a"), "/a/"}, {wRe(`a\/b`), `/a\/b/`}, {wRe("/"), "///"}, {wRe("\n"), "/\n/"},
		{wName("a"), "a"}, {wName(""), ""}, {wName("1 @"), "1 @"},
		{wKey("in"), "in"}, {wKey("x"), "x"},
		{wSign("+="), "+="}, {wSign("\n"), "\n"},
		{wEnd(), "\n"},
		{impl.Token{Kind: impl.TNum, Text: "x", N: 2000000, Line: 3}, "2"},
		{impl.Token{Kind: impl.TStr, Text: "x", N: 2, Line: 3}, `"x"`},
		{impl.Token{Kind: impl.TRe, Text: "x", N: 2, Line: 3}, "/x/"},
		{impl.Token{Kind: impl.TName, Text: "x", N: 2, Line: 3}, "x"},
		{impl.Token{Kind: impl.TEnd, Text: ";", N: 2, Line: 3}, "\n"},
	}
	for _, c := range cases {
		if got := impl.TokenText(c.w); got != c.want {
			t.Errorf("TokenText(%v) = %q", c.w, got)
		}
	}
	for _, kind := range []int{-1, 7, 8, 100, math.MinInt, math.MaxInt} {
		for _, text := range []string{"", "x", "a b\n\xff"} {
			if got := impl.TokenText(impl.Token{Kind: kind, Text: text, N: 5, Line: 6}); got != text {
				t.Errorf("kind %d with %q: %q", kind, text, got)
			}
		}
	}
	for _, kind := range []int{impl.TRe, impl.TName, impl.TKey, impl.TSign, 7} {
		long := strings.Repeat("a", 100000)
		if got := strings.Trim(impl.TokenText(impl.Token{Kind: kind, Text: long}), "/"); got != long {
			t.Errorf("kind %d: %d bytes", kind, len(got))
		}
	}
}

func TestCount(t *testing.T) {
	list, _ := impl.Lex("BEGIN { x = 1; y = \"a\" }\n/b/ && z < 2 { print x, y; next }")
	wants := map[int]int{impl.TNum: 2, impl.TStr: 1, impl.TRe: 1, impl.TName: 5, impl.TKey: 3, impl.TSign: 9, impl.TEnd: 3}
	all := 0
	for kind, want := range wants {
		if got := impl.Count(list, kind); got != want {
			t.Errorf("Count of %d = %d", kind, got)
		}
		all += want
	}
	if all != len(list) {
		t.Error(all, len(list))
	}
	for kind := range 7 {
		if impl.Count(nil, kind) != 0 || impl.Count([]impl.Token{}, kind) != 0 || impl.Count(make([]impl.Token, 9), kind) != map[int]int{0: 9}[kind] {
			t.Errorf("kind %d", kind)
		}
	}
	for _, kind := range []int{-1, 7, 8, 256, math.MinInt, math.MaxInt} {
		if impl.Count(list, kind) != 0 || impl.Count(nil, kind) != 0 {
			t.Errorf("Count of %d = %d", kind, impl.Count(list, kind))
		}
	}
	if got := impl.Count(append(list, impl.Token{Kind: -1}, impl.Token{Kind: 7}, wEnd()), impl.TEnd); got != 4 {
		t.Error(got)
	}
}

func TestCountOfEachKindIsAll(t *testing.T) {
	from := rand.New(rand.NewSource(6))
	for range 300 {
		list := make([]impl.Token, from.Intn(50))
		wants := [7]int{}
		for i := range list {
			list[i].Kind = from.Intn(7)
			wants[list[i].Kind]++
		}
		for kind, want := range wants {
			if got := impl.Count(list, kind); got != want {
				t.Errorf("Count(%v, %d) = %d", list, kind, got)
			}
		}
	}
}

// Promise 17: no list is written into, nor what stands behind it, and each
// answer is the caller's alone.
func TestListsOfWordsAreNewAndNotWrittenInto(t *testing.T) {
	const s = "a = /b/ + 1.5; print \"c\"\n"
	first, _ := impl.Lex(s)
	want := slices.Clone(first)
	for kind := -1; kind <= 7; kind++ {
		impl.Count(first[:3], kind)
	}
	for _, w := range first {
		impl.TokenText(w)
	}
	if !slices.Equal(first, want) {
		t.Errorf("%v was written into", want)
	}
	for i := range first {
		first[i] = impl.Token{Kind: 9, Text: "changed"}
	}
	_ = append(first, impl.Token{Kind: 9})
	if second, bad := impl.Lex(s); bad != 0 || !slices.Equal(second, want) {
		t.Errorf("%v, %d", second, bad)
	}
}
