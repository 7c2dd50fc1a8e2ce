package tests

import (
	"math"
	"strings"
	"testing"

	"loop.example/g00560/impl"
)

func none() impl.Val { return impl.Val{} }

func str(s string) impl.Val { return impl.Val{Kind: impl.VStr, S: s} }

func num(n int) impl.Val { return impl.Val{Kind: impl.VNum, N: n} }

func look(s string, n int) impl.Val { return impl.Val{Kind: impl.VLook, S: s, N: n} }

// textsForValues tells texts that look like numbers, texts that only begin like
// one, and texts that do neither.
func textsForValues() []string {
	return []string{
		"", " ", "\n", "0", "-0", "0.0", ".0", "0.", "5", "05", " 5", "5 ", "\t5\n", "+5", "5.0", "5.0000009", "-5", "-5.5", ".5", "5.",
		"9", "10", " 10 ", "10x", "5 5", "7x", " 7x", "-7-", "1e5", "0x", "0x10", "abc", "a", "A", "-", "+", ".", "\"", "`", "\\",
		"1000000", "-1000000", "1000000.0000009", "1000001", "-1000001", "1000000.000001", "\x00", "\xff", "1\xff", "\u0661", "none",
		strings.Repeat("0", 60), strings.Repeat("0", 61), strings.Repeat(" ", 59) + "1", strings.Repeat(" ", 60) + "1", "1" + strings.Repeat(" ", 70),
	}
}

func goodValues() []impl.Val {
	values := []impl.Val{none()}
	for _, s := range textsForValues() {
		values = append(values, str(s), impl.FromText(s))
	}
	for _, n := range someNumbers() {
		values = append(values, num(n))
	}
	return values
}

func badValues() []impl.Val {
	values := []impl.Val{
		{S: "a"}, {S: "5"}, {S: " "}, {N: 1}, {N: -5 * one}, {S: "5", N: 5 * one}, {N: math.MinInt},
		{Kind: impl.VStr, N: 1}, {Kind: impl.VStr, S: "5", N: 5 * one}, {Kind: impl.VStr, S: "a", N: -1}, {Kind: impl.VStr, S: "0", N: math.MaxInt},
		{Kind: impl.VNum, S: "a"}, {Kind: impl.VNum, S: "0"}, {Kind: impl.VNum, S: "5", N: 5 * one}, {Kind: impl.VNum, S: "b", N: maxNum + 1},
		look("", 0), look("x", 0), look(" ", 0), look("-", 0), look("7x", 7*one), look("7x", 0), look("5", one), look("5", 5), look("5", 0), look("5", -5*one),
		look("0", 1), look(" 5 ", 5*one+1), look("-5", 5*one), look("5.0000009", 5*one+1), look("1000001", 1000001*one), look("1000001", maxNum), look("1000001", 0),
		look("1000000.000001", maxNum+1), look("5", math.MinInt), look("a", math.MaxInt), look("\u0661", one), look(strings.Repeat("0", 61), 0),
	}
	for _, n := range noNumbers() {
		values = append(values, num(n))
	}
	for _, kind := range otherKinds() {
		values = append(values, impl.Val{Kind: kind}, impl.Val{Kind: kind, S: "a"}, impl.Val{Kind: kind, S: "5", N: 5 * one}, impl.Val{Kind: kind, N: -one})
	}
	return values
}

func otherKinds() []int {
	return []int{4, 5, -1, -2, -3, 255, 256, 257, 258, 1 << 32, 1<<32 + 1, math.MaxInt, math.MinInt}
}

func TestValueKinds(t *testing.T) {
	if impl.VNone != 0 || impl.VStr != 1 || impl.VNum != 2 || impl.VLook != 3 {
		t.Error(impl.VNone, impl.VStr, impl.VNum, impl.VLook)
	}
	if none() != (impl.Val{Kind: impl.VNone}) {
		t.Error("a VNone is the zero value")
	}
}

func TestValOk(t *testing.T) {
	for _, v := range goodValues() {
		if !impl.ValOk(v) {
			t.Errorf("%#v is a value", v)
		}
	}
	for _, v := range badValues() {
		if impl.ValOk(v) {
			t.Errorf("%#v is no value", v)
		}
	}
	more := []impl.Val{
		look("5", 5*one), look(" 5\n", 5*one), look("-0", 0), look(".5", 500000), look("5.0000009", 5*one), look("1000000", maxNum), look("-1000000", -maxNum),
		str(strings.Repeat("a", impl.MaxText+1)), str(allBytes()), look("1"+strings.Repeat(" ", impl.MaxText), one), num(maxNum), num(-maxNum),
	}
	for _, v := range more {
		if !impl.ValOk(v) {
			t.Errorf("%#v is a value", v)
		}
	}
}

func TestFromText(t *testing.T) {
	looks := map[string]int{
		"0": 0, "-0": 0, "5": 5 * one, "05": 5 * one, " 5": 5 * one, "5 ": 5 * one, "\t5\n": 5 * one, " \n-5.5\t ": -5500000, "+5": 5 * one, "5.": 5 * one,
		".5": 500000, "-.5": -500000, "5.0000009": 5 * one, "1000000": maxNum, "-1000000": -maxNum, "1000000.0000009": maxNum, "007.50": 7500000,
		strings.Repeat("0", 59) + "1": one, "1" + strings.Repeat(" ", 5000): one,
	}
	for s, n := range looks {
		if got := impl.FromText(s); got != look(s, n) {
			t.Errorf("FromText(%q) = %#v", s, got)
		}
	}
	others := []string{
		"", " ", "\n", "a", "7x", "x7", " 7 x", "5 5", "-", "+", ".", "- 5", "--5", "1e5", "0x1", "1,5", "1000001", "-1000001", "1000000.000001",
		"5\r", "\v5", "5\x00", "\u00a05", "\u0661", "\xff", strings.Repeat("0", 61), strings.Repeat(" ", 60) + "1", strings.Repeat("9", 5000),
	}
	for _, s := range others {
		if got := impl.FromText(s); got != str(s) {
			t.Errorf("FromText(%q) = %#v", s, got)
		}
	}
}

func TestFromTextKeepsItsText(t *testing.T) {
	texts := append(allTexts(" \n-.05x", 5), textsForValues()...)
	for _, s := range texts {
		v := impl.FromText(s)
		want := str(s)
		if impl.LooksNum(s) {
			n, _ := impl.ReadNum(s)
			want = look(s, n)
		}
		if v != want || !impl.ValOk(v) || impl.StrOf(v) != s {
			t.Errorf("FromText(%q) = %#v", s, v)
		}
	}
}

func TestStrOf(t *testing.T) {
	cases := []struct {
		v    impl.Val
		want string
	}{
		{none(), ""}, {str(""), ""}, {str("a\n\xff"), "a\n\xff"}, {str(" 5 "), " 5 "}, {look(" 5.0 ", 5*one), " 5.0 "}, {look("-0", 0), "-0"}, {look("+1", one), "+1"},
		{num(0), "0"}, {num(9 * one), "9"}, {num(-500000), "-0.5"}, {num(1), "0.000001"}, {num(maxNum), "1000000"}, {num(-maxNum), "-1000000"},
		{num(maxNum + 1), ""}, {num(-maxNum - 1), ""}, {num(math.MinInt), ""}, {num(math.MaxInt), ""},
		{impl.Val{S: "a"}, "a"}, {impl.Val{S: "a", N: one}, "a"}, {impl.Val{N: one}, ""},
		{impl.Val{Kind: impl.VStr, S: "a", N: one}, "a"}, {impl.Val{Kind: impl.VStr, N: one}, ""},
		{impl.Val{Kind: impl.VNum, S: "a", N: one}, "1"}, {impl.Val{Kind: impl.VNum, S: "a", N: maxNum + 1}, ""},
		{look("5", one), "5"}, {look("x", one), "x"}, {look("", one), ""},
	}
	for _, c := range cases {
		if got := impl.StrOf(c.v); got != c.want {
			t.Errorf("StrOf(%#v) = %q", c.v, got)
		}
	}
	for _, kind := range otherKinds() {
		if got := impl.StrOf(impl.Val{Kind: kind, S: "5", N: one}); got != "5" {
			t.Errorf("StrOf of kind %d = %q", kind, got)
		}
	}
}

func TestNumOf(t *testing.T) {
	cases := []struct {
		v    impl.Val
		want int
	}{
		{none(), 0}, {num(0), 0}, {num(5), 5}, {num(-maxNum), -maxNum}, {look(" 5 ", 5*one), 5 * one}, {look("-.5", -500000), -500000},
		{str(""), 0}, {str("abc"), 0}, {str("7x"), 7 * one}, {str(" \t\n-1.5 x"), -1500000}, {str("5"), 5 * one}, {str(" 5 "), 5 * one}, {str("1.2345678"), 1234567},
		{str("-"), 0}, {str("."), 0}, {str("x7"), 0}, {str("1000000"), maxNum}, {str("1000001"), 0}, {str("-1000001x"), 0}, {str(strings.Repeat("0", 60) + "1"), 0},
		{num(maxNum + 1), maxNum + 1}, {num(math.MinInt), math.MinInt}, {num(math.MaxInt), math.MaxInt},
		{impl.Val{N: one}, 0}, {impl.Val{S: "5"}, 0}, {impl.Val{S: "5", N: one}, 0},
		{impl.Val{Kind: impl.VStr, S: "5", N: one}, 5 * one}, {impl.Val{Kind: impl.VStr, N: one}, 0},
		{impl.Val{Kind: impl.VNum, S: "5", N: one}, one}, {look("5", one), one}, {look("x", one), one}, {look("5", 0), 0}, {look("5", math.MinInt), math.MinInt},
	}
	for _, c := range cases {
		if got := impl.NumOf(c.v); got != c.want {
			t.Errorf("NumOf(%#v) = %d", c.v, got)
		}
	}
	for _, kind := range otherKinds() {
		if got := impl.NumOf(impl.Val{Kind: kind, S: "5", N: one}); got != 0 {
			t.Errorf("NumOf of kind %d = %d", kind, got)
		}
	}
}

func TestTruth(t *testing.T) {
	truths := []impl.Val{
		num(1), num(-1), num(one), num(maxNum), num(maxNum + 1), num(math.MinInt), impl.FromText("5"), impl.FromText(" -0.5 "), impl.FromText("0.000001"),
		str("a"), str("0"), str("0.0"), str(" "), str("\x00"), str("\n"), impl.FromText("0x"), impl.FromText(" "), impl.FromText("1000001"),
		{Kind: impl.VNum, S: "", N: 5}, {Kind: impl.VNum, S: "0", N: 5}, look("0", 1), look("", 1), look("x", -1), {Kind: impl.VStr, S: "a", N: 1},
	}
	for _, v := range truths {
		if !impl.Truth(v) {
			t.Errorf("%#v is true", v)
		}
	}
	lies := []impl.Val{
		none(), num(0), str(""), impl.FromText(""), impl.FromText("0"), impl.FromText("-0"), impl.FromText(" 0.0 "), impl.FromText(".0000009"), look("5", 0), look("x", 0),
		{S: "a"}, {N: 1}, {S: "5", N: 5 * one}, {Kind: impl.VStr, N: 1}, {Kind: impl.VNum, S: "a"},
	}
	for _, kind := range otherKinds() {
		lies = append(lies, impl.Val{Kind: kind, S: "5", N: 5 * one})
	}
	for _, v := range lies {
		if impl.Truth(v) {
			t.Errorf("%#v is false", v)
		}
	}
}

// comparisons tells pairs and what CompareVal answers of them in this order.
func comparisons() []struct {
	a, b impl.Val
	want int
} {
	return []struct {
		a, b impl.Val
		want int
	}{
		{num(9 * one), num(10 * one), -1}, {num(-one), num(one), -1}, {num(one), num(one), 0}, {num(0), num(1), -1}, {num(-maxNum), num(maxNum), -1},
		{impl.FromText("9"), impl.FromText("10"), -1}, {impl.FromText("05"), impl.FromText("5"), 0}, {impl.FromText(" 5"), impl.FromText("5.0\n"), 0}, {impl.FromText("-9"), impl.FromText("-10"), 1},
		{impl.FromText("9"), num(10 * one), -1}, {impl.FromText(" 10 "), num(9 * one), 1}, {impl.FromText("+1.50"), num(1500000), 0},
		{str("9"), str("10"), 1}, {str("a"), str("b"), -1}, {str("a"), str("ab"), -1}, {str("B"), str("a"), -1}, {str(""), str(""), 0}, {str(""), str("\x00"), -1}, {str("\x7f"), str("\x80"), -1}, {str("\xff"), str("\u0661"), 1}, {str("5"), str("05"), 1},
		{str("10"), num(9 * one), -1}, {str("9"), num(9 * one), 0}, {str("9.0"), num(9 * one), 1}, {str("abc"), num(maxNum), 1}, {str(""), num(0), -1}, {str("-0.5"), num(-500000), 0}, {str(" 9"), num(9 * one), -1},
		{str("10"), impl.FromText("9"), -1}, {str("5"), impl.FromText("05"), 1}, {str("5"), impl.FromText(" 5"), 1}, {str("5"), impl.FromText("5"), 0}, {str("abc"), impl.FromText("5"), 1}, {str(""), impl.FromText("0"), -1},
		{none(), none(), 0}, {none(), num(0), 0}, {none(), num(1), -1}, {none(), num(-1), 1}, {none(), impl.FromText("0"), 0}, {none(), impl.FromText(" -0.0 "), 0}, {none(), impl.FromText("5"), -1}, {none(), impl.FromText("-5"), 1},
		{none(), str(""), 0}, {none(), str("0"), -1}, {none(), str("-5"), -1}, {none(), str("a"), -1}, {none(), str("\x00"), -1},
		{num(maxNum + 1), num(maxNum), 1}, {num(maxNum + 1), num(maxNum + 2), -1}, {num(math.MinInt), num(math.MaxInt), -1}, {num(math.MaxInt), num(-1), 1}, {num(math.MinInt), num(1), -1}, {num(math.MinInt), none(), -1},
		{num(maxNum + 1), str(""), 0}, {num(maxNum + 1), str("0"), -1}, {num(maxNum + 1), impl.FromText("1000000"), 1},
		{look("5", one), num(one), 0}, {look("5", one), num(5 * one), -1}, {look("5", one), str("5"), 0}, {look("5", one), str("1"), 1}, {look("x", 0), none(), 0}, {look("x", 0), str("x"), 0},
		{impl.Val{S: "a"}, num(0), 0}, {impl.Val{S: "a"}, str("a"), 0}, {impl.Val{S: "a"}, str("b"), -1}, {impl.Val{N: one}, num(one), -1}, {impl.Val{N: one}, num(0), 0},
		{impl.Val{Kind: impl.VStr, S: "a", N: one}, str("a"), 0}, {impl.Val{Kind: impl.VNum, S: "a", N: one}, str("1"), 0}, {impl.Val{Kind: impl.VNum, S: "a", N: one}, num(one), 0},
		{impl.Val{Kind: 4, S: "5", N: one}, num(0), 0}, {impl.Val{Kind: 4, S: "5", N: one}, num(one), -1}, {impl.Val{Kind: 4, S: "5", N: one}, str("5"), 0}, {impl.Val{Kind: 4, S: "5", N: one}, str("a"), -1},
		{impl.Val{Kind: -1, S: "5", N: one}, none(), 0}, {impl.Val{Kind: 4, S: "a"}, impl.Val{Kind: 5, S: "b"}, 0}, {impl.Val{Kind: 257, S: "a"}, num(0), 0},
	}
}

// Promise 3: values are compared in one way from both sides.
func TestCompareVal(t *testing.T) {
	for _, c := range comparisons() {
		if got := impl.CompareVal(c.a, c.b); got != c.want {
			t.Errorf("CompareVal(%#v, %#v) = %d", c.a, c.b, got)
		}
		if got := impl.CompareVal(c.b, c.a); got != -c.want {
			t.Errorf("CompareVal(%#v, %#v) = %d", c.b, c.a, got)
		}
	}
}

// wantedOrder tells what CompareVal answers, by the answers of StrOf and NumOf.
func wantedOrder(a impl.Val, b impl.Val) int {
	if a.Kind == impl.VStr || b.Kind == impl.VStr {
		return strings.Compare(impl.StrOf(a), impl.StrOf(b))
	}
	first, second := impl.NumOf(a), impl.NumOf(b)
	switch {
	case first < second:
		return -1
	case first > second:
		return 1
	}
	return 0
}

func TestValuesAreComparedInOneWayFromBothSides(t *testing.T) {
	values := append(goodValues(), badValues()...)
	turned := map[string]string{"<": ">", "<=": ">=", "==": "==", "!=": "!=", ">": "<", ">=": "<="}
	for _, a := range values {
		if impl.CompareVal(a, a) != 0 {
			t.Errorf("%#v is not as itself", a)
		}
		for _, b := range values {
			order := impl.CompareVal(a, b)
			if order != wantedOrder(a, b) || impl.CompareVal(b, a) != -order {
				t.Errorf("%#v and %#v: %d, turned about %d", a, b, order, impl.CompareVal(b, a))
			}
			for op, other := range turned {
				if impl.Holds(op, a, b) != impl.Holds(other, b, a) {
					t.Errorf("%#v %s %#v is not %#v %s %#v", a, op, b, b, other, a)
				}
			}
		}
	}
}

func TestHolds(t *testing.T) {
	holds := map[string][3]bool{ // of what is less, alike and greater
		"<": {true, false, false}, "<=": {true, true, false}, "==": {false, true, false},
		"!=": {true, false, true}, ">": {false, false, true}, ">=": {false, true, true},
		"": {}, "=": {}, "!": {}, "<>": {}, "=<": {}, "=>": {}, "===": {}, "<<": {}, "< ": {}, " <": {}, "~": {}, "!~": {}, "==\n": {}, "\x00": {}, "\xff": {}, "a": {},
		strings.Repeat("<", impl.MaxText+1): {},
	}
	for _, c := range comparisons() {
		for op, want := range holds {
			if got := impl.Holds(op, c.a, c.b); got != want[c.want+1] {
				t.Errorf("%#v %s %#v: %v", c.a, op, c.b, got)
			}
			if got := impl.Holds(op, c.b, c.a); got != want[1-c.want] {
				t.Errorf("%#v %s %#v: %v", c.b, op, c.a, got)
			}
		}
	}
}

func TestHoldsTakesSixOpsAlone(t *testing.T) {
	ops := " < <= == != > >= "
	pairs := [][2]impl.Val{{num(1), num(2)}, {num(2), num(2)}, {num(2), num(1)}}
	for _, op := range allTexts("<>=!~ ", 3) {
		taken := false
		for _, p := range pairs {
			taken = taken || impl.Holds(op, p[0], p[1])
		}
		if taken != (op != "" && !strings.Contains(op, " ") && strings.Contains(ops, " "+op+" ")) {
			t.Errorf("op %q: %v", op, taken)
		}
	}
}

func TestShow(t *testing.T) {
	cases := []struct {
		v    impl.Val
		want string
	}{
		{none(), "none"}, {impl.Val{S: "a"}, "none"}, {impl.Val{N: one}, "none"}, {impl.Val{S: "5", N: 5 * one}, "none"},
		{str(""), `""`}, {str("abc"), `"abc"`}, {str("5"), `"5"`}, {str("a\n\t\"\\\x01\xff`"), "\"a\\n\\t\\\"\\\\\\001\\377`\""}, {str("none"), `"none"`},
		{impl.Val{Kind: impl.VStr, S: "a", N: one}, `"a"`},
		{num(0), "0"}, {num(-1500000), "-1.5"}, {num(maxNum), "1000000"}, {num(maxNum + 1), ""}, {num(math.MinInt), ""}, {impl.Val{Kind: impl.VNum, S: "a", N: one}, "1"},
		{impl.FromText("5"), "`5`"}, {impl.FromText(" 5.0\n"), "` 5.0\n`"}, {impl.FromText("+05"), "`+05`"}, {look("5", one), "`5`"}, {look("a\"`\\", one), "`a\"`\\`"}, {look("", 0), "``"},
		{impl.FromText("5x"), `"5x"`}, {impl.FromText(""), `""`},
	}
	for _, c := range cases {
		if got := impl.Show(c.v); got != c.want {
			t.Errorf("Show(%#v) = %q", c.v, got)
		}
	}
	// No sentence tells what is shown of another kind: that is the empty text.
	for _, kind := range otherKinds() {
		if got := impl.Show(impl.Val{Kind: kind, S: "5", N: one}); got != "" {
			t.Errorf("Show of kind %d = %q", kind, got)
		}
	}
}

func TestTheFourKindsAreShownApart(t *testing.T) {
	seen := map[string]impl.Val{}
	for _, v := range goodValues() {
		if old, ok := seen[impl.Show(v)]; ok && old != v {
			t.Errorf("%#v and %#v are shown alike", old, v)
		}
		seen[impl.Show(v)] = v
	}
}

// Promise 17: whatever the text of a value is, and how long, all that is asked
// of it has an answer.
func TestValuesOfTextsOfEverySize(t *testing.T) {
	for _, size := range []int{impl.MaxText - 1, impl.MaxText, impl.MaxText + 1, 100000} {
		for _, unit := range []string{"0", " ", "\n", "-", "\xff", "`", "\""} {
			s := strings.Repeat(unit, size)
			for kind := -1; kind <= 5; kind++ {
				v := impl.Val{Kind: kind, S: s}
				shown := map[int]string{impl.VNone: "none", impl.VStr: impl.Quote(s), impl.VNum: "0", impl.VLook: "`" + s + "`"}[kind]
				text := s
				if kind == impl.VNum {
					text = "0"
				}
				if impl.ValOk(v) != (kind == impl.VStr) || impl.StrOf(v) != text || impl.NumOf(v) != 0 || impl.Truth(v) != (kind == impl.VStr) || impl.Show(v) != shown {
					t.Errorf("kind %d of %d times %q", kind, size, unit)
				}
				if v != (impl.Val{Kind: kind, S: s}) || impl.CompareVal(v, v) != 0 {
					t.Errorf("kind %d of %d times %q is not as itself", kind, size, unit)
				}
			}
			if impl.FromText(s) != str(s) {
				t.Errorf("FromText of %d times %q", size, unit)
			}
		}
	}
}
