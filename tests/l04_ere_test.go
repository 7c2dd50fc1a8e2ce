package tests

import (
	"math"
	"math/rand"
	"regexp"
	"slices"
	"strings"
	"testing"
	"time"

	"loop.example/g00560/impl"
)

func reNone() impl.Re { return impl.Re{Kind: impl.RNone} }

func reByte() impl.Re { return impl.Re{Kind: impl.RByte} }

func reSet(bytes string) impl.Re { return impl.Re{Kind: impl.RSet, Set: bytes} }

func reNot(bytes string) impl.Re { return impl.Re{Kind: impl.RSet, Set: bytes, Not: true} }

func reHead() impl.Re { return impl.Re{Kind: impl.RHead} }

func reTail() impl.Re { return impl.Re{Kind: impl.RTail} }

// reCat tells the parts one behind the other, the first one and what is behind.
func reCat(parts ...impl.Re) impl.Re { return rePairs(impl.RCat, parts) }

func reAlt(parts ...impl.Re) impl.Re { return rePairs(impl.RAlt, parts) }

func rePairs(kind int, parts []impl.Re) impl.Re {
	if len(parts) == 1 {
		return parts[0]
	}
	return impl.Re{Kind: kind, Kids: []impl.Re{parts[0], rePairs(kind, parts[1:])}}
}

func reMany(kid impl.Re, low int, high int) impl.Re {
	return impl.Re{Kind: impl.RMany, Low: low, High: high, Kids: []impl.Re{kid}}
}

// reDeep puts a part into so many of what wrap makes.
func reDeep(r impl.Re, times int, wrap func(impl.Re) impl.Re) impl.Re {
	for range times {
		r = wrap(r)
	}
	return r
}

func sameRe(a impl.Re, b impl.Re) bool {
	return a.Kind == b.Kind && a.Set == b.Set && a.Not == b.Not && a.Low == b.Low && a.High == b.High && slices.EqualFunc(a.Kids, b.Kids, sameRe)
}

func copyRe(r impl.Re) impl.Re {
	kids := []impl.Re{}
	for _, kid := range r.Kids {
		kids = append(kids, copyRe(kid))
	}
	r.Kids = kids
	return r
}

func star(r impl.Re) impl.Re { return reMany(r, 0, -1) }

// mustRe tells what an expression's text is.
func mustRe(t *testing.T, s string) impl.Re {
	t.Helper()
	r, ok := impl.ParseRe(s)
	if !ok {
		t.Fatalf("%.60q is no expression", s)
	}
	return r
}

func TestReConstants(t *testing.T) {
	kinds := []int{impl.RNone, impl.RByte, impl.RSet, impl.RCat, impl.RAlt, impl.RMany, impl.RHead, impl.RTail}
	for i, kind := range kinds {
		if kind != i {
			t.Error(kinds)
		}
	}
	if impl.MaxRe != 200 || impl.MaxNest != 12 {
		t.Error(impl.MaxRe, impl.MaxNest)
	}
}

// goodRes tells expressions of every kind, and some at their limits.
func goodRes() []impl.Re {
	a := reSet("a")
	list := []impl.Re{
		{}, reNone(), reByte(), a, reSet("\x00"), reSet("\xff"), reSet("ab"), reSet("]"), reSet("-^"), reSet(allBytes()), reNot("a"), reNot("-]^"), reNot(allBytes()), reHead(), reTail(),
		{Kind: impl.RSet, Set: "a", Kids: []impl.Re{}}, {Kids: []impl.Re{}},
		reCat(a, a), reCat(reNone(), reNone()), reCat(reCat(a, a), a), reCat(reAlt(a, a), reAlt(a, a)), reAlt(a, reNone()), reAlt(reNone(), reNone()), reAlt(reAlt(a, a), a), reAlt(reCat(a, a), reMany(a, 1, 2)),
		reCat(reHead(), a, reTail()), reMany(reMany(a, 2, 2), 0, 9), reMany(reNone(), 0, -1), reMany(reHead(), 1, -1), reMany(reTail(), 0, 1),
		reDeep(a, 12, star), reCat(slices.Repeat([]impl.Re{a}, 100)...), reAlt(slices.Repeat([]impl.Re{reNone()}, 100)...), star(reCat(slices.Repeat([]impl.Re{a}, 100)...)),
		reCat(reDeep(a, 11, star), reDeep(a, 12, star)),
	}
	for low := range 10 {
		list = append(list, reMany(a, low, -1))
		for high := low; high < 10; high++ {
			list = append(list, reMany(a, low, high), reMany(reCat(a, a), low, high))
		}
	}
	return list
}

// badRes tells what is no expression, each for one reason.
func badRes() []impl.Re {
	a := reSet("a")
	list := []impl.Re{
		{Kind: impl.RSet}, {Kind: impl.RSet, Not: true}, reSet("ba"), reSet("aa"), reSet("abb"), reSet("ab\x00"), reSet("\xff\x00"), reNot("ba"), reSet(allBytes() + "\xff"), reSet(allBytes() + "\x00"),
		{Kind: impl.RSet, Set: "a", Low: 1}, {Kind: impl.RSet, Set: "a", High: 1}, {Kind: impl.RSet, Set: "a", High: -1}, {Kind: impl.RSet, Set: "a", Kids: []impl.Re{a}},
		{Kind: impl.RCat}, {Kind: impl.RCat, Kids: []impl.Re{a}}, {Kind: impl.RCat, Kids: []impl.Re{a, a, a}}, {Kind: impl.RAlt}, {Kind: impl.RAlt, Kids: []impl.Re{a}}, {Kind: impl.RAlt, Kids: []impl.Re{a, a, a}},
		{Kind: impl.RMany}, {Kind: impl.RMany, High: -1}, {Kind: impl.RMany, High: -1, Kids: []impl.Re{a, a}}, {Kind: impl.RMany, High: -1, Set: "a", Kids: []impl.Re{a}}, {Kind: impl.RMany, High: -1, Not: true, Kids: []impl.Re{a}},
		reMany(a, 2, 1), reMany(a, 1, 0), reMany(a, -1, -1), reMany(a, -1, 1), reMany(a, 0, 10), reMany(a, 10, 10), reMany(a, 10, -1), reMany(a, 9, 10), reMany(a, 0, -2), reMany(a, 3, -2), reMany(a, 0, math.MaxInt), reMany(a, math.MinInt, -1), reMany(a, math.MinInt, math.MinInt),
		reCat(a, impl.Re{Kind: 8}), reCat(impl.Re{Kind: 8}, a), reAlt(a, reSet("ba")), reMany(impl.Re{Kind: impl.RCat}, 0, 1), star(star(star(impl.Re{Low: 1}))),
	}
	for _, kind := range []int{8, 9, -1, 255, 256, 258, 1 << 32, 1<<32 + 1, math.MaxInt, math.MinInt} {
		list = append(list, impl.Re{Kind: kind}, impl.Re{Kind: kind, Set: "a"}, impl.Re{Kind: kind, Kids: []impl.Re{a}})
	}
	for _, kind := range []int{impl.RNone, impl.RByte, impl.RHead, impl.RTail} {
		list = append(list, impl.Re{Kind: kind, Set: "a"}, impl.Re{Kind: kind, Not: true}, impl.Re{Kind: kind, Low: 1}, impl.Re{Kind: kind, High: 1}, impl.Re{Kind: kind, High: -1}, impl.Re{Kind: kind, Kids: []impl.Re{a}})
	}
	for _, kind := range []int{impl.RCat, impl.RAlt} {
		kids := []impl.Re{a, a}
		list = append(list, impl.Re{Kind: kind, Set: "a", Kids: kids}, impl.Re{Kind: kind, Not: true, Kids: kids}, impl.Re{Kind: kind, Low: 1, Kids: kids}, impl.Re{Kind: kind, High: -1, Kids: kids})
	}
	return append(list, res13Deep()...)
}

// res13Deep tells expressions with a part too deep, or one part too many.
func res13Deep() []impl.Re {
	a := reSet("a")
	first := func(kind int) func(impl.Re) impl.Re {
		return func(r impl.Re) impl.Re { return impl.Re{Kind: kind, Kids: []impl.Re{r, a}} }
	}
	return []impl.Re{
		reDeep(a, 13, star), reDeep(a, 13, first(impl.RCat)), reDeep(a, 13, first(impl.RAlt)), reDeep(reCat(a, a), 12, star), reCat(a, reDeep(a, 13, star)), reCat(reDeep(a, 12, star), a),
		reCat(slices.Repeat([]impl.Re{a}, 101)...), reAlt(slices.Repeat([]impl.Re{a}, 101)...), star(star(reCat(slices.Repeat([]impl.Re{a}, 100)...))), reCat(slices.Repeat([]impl.Re{a}, 100000)...),
		kidsThatHoldThemselves(impl.RMany, 1, 0), kidsThatHoldThemselves(impl.RCat, 2, 0), kidsThatHoldThemselves(impl.RCat, 2, 1), kidsThatHoldThemselves(impl.RAlt, 2, 1), kidsThatHoldThemselves(impl.RSet, 1, 0),
	}
}

// kidsThatHoldThemselves tells a part that is its own kid.
func kidsThatHoldThemselves(kind int, many int, which int) impl.Re {
	kids := make([]impl.Re, many)
	kids[which] = impl.Re{Kind: kind, Kids: kids}
	return kids[which]
}

func TestReOk(t *testing.T) {
	for _, r := range goodRes() {
		if !impl.ReOk(r) {
			t.Errorf("%.200q is an expression", impl.ReText(r))
		}
	}
	for i, r := range badRes() {
		if impl.ReOk(r) {
			t.Errorf("%d: kind %d is no expression", i, r.Kind)
		}
	}
}

func TestReOkCountsKidsDeep(t *testing.T) {
	a := reSet("a")
	first := func(r impl.Re) impl.Re { return reCat(r, a) }
	second := func(r impl.Re) impl.Re { return reCat(a, r) }
	secondAlt := func(r impl.Re) impl.Re { return reAlt(a, r) }
	good := []impl.Re{
		reDeep(a, 12, first), reDeep(reCat(a, a), 11, star), reDeep(a, 99, second), reDeep(a, 99, secondAlt), reDeep(reDeep(a, 12, star), 93, second), reDeep(reDeep(a, 90, secondAlt), 11, star),
		reDeep(reDeep(a, 6, second), 6, func(r impl.Re) impl.Re { return star(second(r)) }), reDeep(reCat(reNone(), reTail()), 11, first),
	}
	for i, r := range good {
		if !impl.ReOk(r) {
			t.Errorf("%d: no part is too deep", i)
		}
	}
	bad := []impl.Re{reDeep(reCat(a, a), 12, first), reDeep(a, 100, second), reDeep(reDeep(a, 13, star), 3, second), reDeep(reDeep(a, 12, star), 94, second), reDeep(reDeep(a, 3, secondAlt), 12, star)}
	for i, r := range bad {
		if impl.ReOk(r) {
			t.Errorf("%d: some part is too deep, or they are too many", i)
		}
	}
}

func TestParseRe(t *testing.T) {
	a, b, c := reSet("a"), reSet("b"), reSet("c")
	cases := map[string]impl.Re{
		"": reNone(), "()": reNone(), "(())": reNone(), "a": a, "(a)": a, "((a))": a, ".": reByte(), "^": reHead(), "$": reTail(), "ab": reCat(a, b), "abc": reCat(a, b, c), "(ab)c": reCat(reCat(a, b), c), "a(bc)": reCat(a, b, c), "()a": reCat(reNone(), a), "a()": reCat(a, reNone()),
		"a|b": reAlt(a, b), "a|b|c": reAlt(a, b, c), "(a|b)|c": reAlt(reAlt(a, b), c), "a|(b|c)": reAlt(a, b, c), "|": reAlt(reNone(), reNone()), "a|": reAlt(a, reNone()), "|a": reAlt(reNone(), a), "a||b": reAlt(a, reNone(), b), "||": reAlt(reNone(), reNone(), reNone()), "(|)": reAlt(reNone(), reNone()), "ab|c": reAlt(reCat(a, b), c), "(a|b)c": reCat(reAlt(a, b), c),
		"a*": star(a), "a+": reMany(a, 1, -1), "a?": reMany(a, 0, 1), "a{0}": reMany(a, 0, 0), "a{3}": reMany(a, 3, 3), "a{0,}": star(a), "a{2,}": reMany(a, 2, -1), "a{9,}": reMany(a, 9, -1), "a{1,4}": reMany(a, 1, 4), "a{0,9}": reMany(a, 0, 9), "a{9,9}": reMany(a, 9, 9), "a{0,1}": reMany(a, 0, 1), "a{1}": reMany(a, 1, 1),
		"ab*": reCat(a, star(b)), "(ab)*": star(reCat(a, b)), "(a*)*": star(star(a)), "()*": star(reNone()), "(|a)+": reMany(reAlt(reNone(), a), 1, -1), ".*": star(reByte()), "^*": star(reHead()), "$+": reMany(reTail(), 1, -1), "a^b$c": reCat(a, reHead(), b, reTail(), c), "[ab]?c": reCat(reMany(reSet("ab"), 0, 1), c),
		"\\a": a, "\\.": reSet("."), "\\\\": reSet("\\"), "\\n": reSet("n"), "\\\n": reSet("\n"), "\\(": reSet("("), "\\)a": reCat(reSet(")"), a), "\\[a]": reCat(reSet("["), a, reSet("]")), "\\**": star(reSet("*")), "\\|": reSet("|"), "\\\xff": reSet("\xff"), "a\\{2}": reCat(a, reSet("{"), reSet("2"), reSet("}")),
		"]": reSet("]"), "}": reSet("}"), "/": reSet("/"), "-": reSet("-"), ",": reSet(","), "\n": reSet("\n"), "\x00": reSet("\x00"), "\xff": reSet("\xff"), "]*": star(reSet("]")), "a}": reCat(a, reSet("}")), "2": reSet("2"), "\"": reSet("\""),
	}
	for s, want := range cases {
		if got, ok := impl.ParseRe(s); !ok || !sameRe(got, want) {
			t.Errorf("ParseRe(%q) = %#v, %v", s, got, ok)
		}
	}
}

func TestParseReOfSets(t *testing.T) {
	sets := map[string]string{
		"[a]": "a", "[ba]": "ab", "[aab]": "ab", "[a-c]": "abc", "[a-a]": "a", "[b-da]": "abcd", "[a-cb-e]": "abcde", "[a-cx-z]": "abcxyz", "[ -/]": " !\"#$%&'()*+,-./",
		"[]]": "]", "[]x]": "]x", "[]-]": "-]", "[]-_]": "]^_", "[]a-c]": "]abc", "[[]": "[", "[[a]": "[a", "[[-\\]": "[\\", "[]^-]": "-]^",
		"[-]": "-", "[--]": "-", "[---]": "-", "[-a]": "-a", "[a-]": "-a", "[-a-]": "-a", "[-a-c]": "-abc", "[a-c-]": "-abc", "[a-c-e]": "-abce", "[a-c-e-g]": "-abcefg", "[--/]": "-./", "[+--]": "+,-", "[a-c--/]": "-./abc", "[]-a-]": "-]^_`a", "[ab-]": "-ab",
		"[a^]": "^a", "[a^b]": "^ab", "[-^]": "-^", "[]^]": "]^", "[a-^]": "", "[Z-^]": "Z[\\]^", "[+-^]": "+,-./0123456789:;<=>?@ABCDEFGHIJKLMNOPQRSTUVWXYZ[\\]^",
		"[.*+?(){}|$\\]": "$()*+.?\\{|}", "[\\\\]": "\\", "[\\n]": "\\n", "[\n\t]": "\t\n", "[\x00-\xff]": allBytes(), "[\xff\x80]": "\x80\xff", "[|]": "|", "[(]": "(", "[)]": ")", "[/]": "/",
	}
	for s, set := range sets {
		got, ok := impl.ParseRe(s)
		if ok != (set != "") || ok && !sameRe(got, reSet(set)) {
			t.Errorf("ParseRe(%q) = %#v, %v", s, got, ok)
		}
	}
	nots := map[string]string{
		"[^a]": "a", "[^^]": "^", "[^a^]": "^a", "[^^a]": "^a", "[^]]": "]", "[^]a]": "]a", "[^-]": "-", "[^--]": "-", "[^-a]": "-a", "[^a-]": "-a", "[^a-c]": "abc", "[^]-a]": "]^_`a", "[^^-]": "-^", "[^\x00-\xff]": allBytes(),
	}
	for s, set := range nots {
		if got, ok := impl.ParseRe(s); !ok || !sameRe(got, reNot(set)) {
			t.Errorf("ParseRe(%q) = %#v, %v", s, got, ok)
		}
	}
	behind := map[string]impl.Re{
		"[]]]": reCat(reSet("]"), reSet("]")), "[a-]]": reCat(reSet("-a"), reSet("]")), "[+-]]": reCat(reSet("+-"), reSet("]")), "[a]]": reCat(reSet("a"), reSet("]")), "[\\]]": reCat(reSet("\\"), reSet("]")), "[^a]*": star(reNot("a")), "[[]]": reCat(reSet("["), reSet("]")),
	}
	for s, want := range behind {
		if got, ok := impl.ParseRe(s); !ok || !sameRe(got, want) {
			t.Errorf("ParseRe(%q) = %#v, %v", s, got, ok)
		}
	}
}

func TestParseReRefuses(t *testing.T) {
	texts := []string{
		"*", "+", "?", "{", "{2}", "a|*", "|*", "*a", "(*)", "(+a)", "^(?)", "a**", "a*+", "a+*", "a+?", "a??", "a*?", "a{2}{3}", "a{2}*", "a*{2}", "a|b|?", "(a)**",
		"(", ")", "(a", "a)", "((a)", "(a))", "())", "(()", "a(", "a|(", "(|", ")(", "[(]*)",
		"[", "[]", "[^", "[^]", "[a", "[a-", "[a-b", "[]a", "[^]a", "a[", "[b-a]", "[z-a]", "[a-^]", "[a--]", "[]-[]", "[\xff-\x00]", "x[c-ba]",
		"\\", "a\\", "(\\)", "[a]\\", "\\\\\\",
		"a{", "a{}", "a{,}", "a{,2}", "a{1", "a{1,", "a{1,2", "a{12}", "a{1,12}", "a{12,}", "a{01}", "a{2,1}", "a{9,0}", "a{1,0}", "a{x}", "a{1x}", "a{1,x}", "a{ 1}", "a{1 }", "a{-1}", "a{+1}", "a{1,2,3}", "a{1}}{", "a{1,,2}", "a{\xb2}",
	}
	for _, s := range texts {
		if r, ok := impl.ParseRe(s); ok || !sameRe(r, impl.Re{}) {
			t.Errorf("ParseRe(%q) = %#v, %v", s, r, ok)
		}
	}
}

// parses tells whether a text is an expression; what is none has the zero value.
func parses(t *testing.T, s string) bool {
	t.Helper()
	r, ok := impl.ParseRe(s)
	if !ok && !sameRe(r, impl.Re{}) || ok && !impl.ReOk(r) {
		t.Errorf("ParseRe(%.40q of %d bytes) = %#v, %v", s, len(s), r, ok)
	}
	return ok
}

func TestParseReHasLimits(t *testing.T) {
	repeat := strings.Repeat
	nested := func(times int, behind string) string {
		return repeat("(", times) + "a" + repeat(")"+behind, times)
	}
	limits := []struct {
		name   string
		s      string
		within bool
	}{
		{"MaxText bytes", "[" + repeat("a", impl.MaxText-2) + "]", true},
		{"one byte more", "[" + repeat("a", impl.MaxText-1) + "]", false},
		{"much more", repeat("a", 1<<20), false},
		{"MaxRe brackets", nested(impl.MaxRe, ""), true},
		{"one bracket more", nested(impl.MaxRe+1, ""), false},
		{"most brackets of MaxText", nested(impl.MaxText/2-1, ""), false},
		{"MaxRe empty brackets", repeat("(", impl.MaxRe) + repeat(")", impl.MaxRe), true},
		{"one empty bracket more", repeat("(", impl.MaxRe+1) + repeat(")", impl.MaxRe+1), false},
		{"brackets of which few are open at once", repeat("(((a)))", 99), true},
		{"MaxRe brackets twice", nested(impl.MaxRe, "") + nested(impl.MaxRe, ""), true},
		{"brackets that are none", repeat("[(]", 50) + repeat("\\(", 50), true},
		{"open brackets alone", repeat("(", impl.MaxText), false},
		{"brackets that do not close", nested(impl.MaxRe, "")[:2*impl.MaxRe], false},
		{"MaxRe parts", repeat("a", 99) + "b*", true},
		{"one part more", repeat("a", 101), false},
		{"MaxRe parts between |", repeat("|", 98) + "b*", true},
		{"one part more between |", repeat("|", 100), false},
		{"many parts", repeat("a", impl.MaxText), false},
		{"many parts between |", repeat("|", impl.MaxText), false},
		{"MaxNest deep", nested(impl.MaxNest, "*"), true},
		{"one deeper", nested(impl.MaxNest+1, "*"), false},
		{"MaxNest deep, one behind the other", nested(impl.MaxNest, "b"), true},
		{"one deeper, one behind the other", nested(impl.MaxNest+1, "b"), false},
		{"deep behind", repeat("b(c|", 49) + "a" + repeat(")", 49), true},
	}
	for _, l := range limits {
		if parses(t, l.s) != l.within {
			t.Errorf("%s: %v", l.name, !l.within)
		}
	}
}

func TestReText(t *testing.T) {
	a, b, c := reSet("a"), reSet("b"), reSet("c")
	cases := []struct {
		r    impl.Re
		want string
	}{
		{reNone(), "()"}, {reByte(), "."}, {reHead(), "^"}, {reTail(), "$"}, {a, "a"}, {reSet("-"), "-"}, {reSet(" "), " "}, {reSet("~"), "~"}, {reSet("&"), "&"}, {reSet("\n"), "\\\n"}, {reSet("\x1f"), "\\\x1f"}, {reSet("\x7f"), "\\\x7f"}, {reSet("\x80"), "\\\x80"}, {reSet("\x00"), "\\\x00"},
		{reCat(a, b), "ab"}, {reCat(a, b, c), "abc"}, {reCat(reCat(a, b), c), "(ab)c"}, {reCat(reCat(reCat(a, b), c), a), "((ab)c)a"}, {reCat(reAlt(a, b), c), "(a|b)c"}, {reCat(a, reAlt(b, c)), "a(b|c)"}, {reCat(a, reNone()), "a()"}, {reCat(reNone(), a), "()a"}, {reCat(star(a), star(b)), "a*b*"}, {reCat(reHead(), a, reTail()), "^a$"},
		{reAlt(a, b), "a|b"}, {reAlt(a, b, c), "a|b|c"}, {reAlt(reAlt(a, b), c), "(a|b)|c"}, {reAlt(reCat(a, b), reCat(b, c)), "ab|bc"}, {reAlt(reCat(reCat(a, b), c), c), "(ab)c|c"}, {reAlt(reNone(), a), "()|a"}, {reAlt(a, reNone()), "a|()"}, {reAlt(star(a), reByte()), "a*|."},
		{star(a), "a*"}, {reMany(a, 1, -1), "a+"}, {reMany(a, 0, 1), "a?"}, {reMany(a, 2, -1), "a{2,}"}, {reMany(a, 9, -1), "a{9,}"}, {reMany(a, 0, 0), "a{0}"}, {reMany(a, 1, 1), "a{1}"}, {reMany(a, 9, 9), "a{9}"}, {reMany(a, 0, 2), "a{0,2}"}, {reMany(a, 1, 2), "a{1,2}"}, {reMany(a, 3, 9), "a{3,9}"},
		{star(reByte()), ".*"}, {star(reSet("ab")), "[ab]*"}, {star(reNot("a")), "[^a]*"}, {star(reSet("*")), "\\**"}, {star(reNone()), "(())*"}, {star(reHead()), "(^)*"}, {star(reTail()), "($)*"}, {star(reCat(a, b)), "(ab)*"}, {star(reAlt(a, b)), "(a|b)*"}, {star(star(a)), "(a*)*"}, {reMany(reMany(a, 2, 2), 0, 1), "(a{2})?"},
		{impl.Re{Kids: []impl.Re{}}, "()"},
	}
	for _, c := range cases {
		if got := impl.ReText(c.r); got != c.want {
			t.Errorf("ReText is %q, not %q", got, c.want)
		}
	}
	for b := range 256 {
		sign := string([]byte{byte(b)})
		want := sign
		if b < 32 || b > 126 || strings.Contains(".^$()[]*+?{}|\\/", sign) {
			want = "\\" + sign
		}
		if got := impl.ReText(reSet(sign)); got != want {
			t.Errorf("ReText of byte %d is %q", b, got)
		}
	}
	for i, r := range badRes() {
		if got := impl.ReText(r); got != "" {
			t.Errorf("%d: ReText of what is no expression is %q", i, got)
		}
	}
}

func TestReTextOfSets(t *testing.T) {
	sets := map[string]string{
		"ab": "[ab]", "abc": "[a-c]", "abcd": "[a-d]", "abd": "[abd]", "abdef": "[abd-f]", "abcx": "[a-cx]", "abcxyz": "[a-cx-z]", "02468": "[02468]", "()*+": "[(-+]", "\n ": "[\n ]", "\x00\xff": "[\x00\xff]", "\x00\x01\x02": "[\x00-\x02]", "\xfd\xfe\xff": "[\xfd-\xff]",
		"]x": "[]x]", "Z]": "[]Z]", "]abc": "[]a-c]", "]^": "[]^]", "-]": "[]-]", "-]^": "[]^-]", "-^": "[-^]", "-a": "[a-]", "-abc": "[a-c-]", "^a": "[a^]", "+-^": "[+^-]", "-^abc": "[a-c^-]", "[]": "[][]", "[\\": "[[\\]", "[\\]": "[][\\]",
		// The bytes ] ^ and - have places of their own, so that they part a run.
		"[\\]^_": "[][\\_^]", "Z[\\]": "[]Z-\\]", "]^_": "[]_^]", "^_`a": "[_-a^]", "+,-": "[+,-]", "+,-./": "[+,./-]", "*+,-./0": "[*-,.-0-]", "ABC]^_`a": "[]A-C_-a^]",
		allBytes(): "[]\x00-,.-\\_-\xff^-]",
	}
	for set, want := range sets {
		if got := impl.ReText(reSet(set)); got != want {
			t.Errorf("ReText of the set %q is %q", set, got)
		}
		wantNot := "[^" + want[1:]
		if set == "-^" {
			wantNot = "[^^-]"
		}
		if got := impl.ReText(reNot(set)); got != wantNot {
			t.Errorf("ReText of not the set %q is %q", set, got)
		}
	}
	for set, want := range map[string]string{"a": "[^a]", "]": "[^]]", "^": "[^^]", "-": "[^-]", "\\": "[^\\]", "\n": "[^\n]", ".": "[^.]"} {
		if got := impl.ReText(reNot(set)); got != want {
			t.Errorf("ReText of not the set %q is %q", set, got)
		}
	}
}

// checkComesBack asks whether an expression comes back from its text.
func checkComesBack(t *testing.T, r impl.Re) {
	t.Helper()
	s := impl.ReText(r)
	got, ok := impl.ParseRe(s)
	if len(s) <= impl.MaxText && (!ok || !sameRe(got, r)) || s == "" {
		t.Errorf("%q comes back as %q, %v", s, impl.ReText(got), ok)
	}
}

// Promise 4: an expression for texts comes back from its text.
func TestExpressionsComeBackFromTheirTexts(t *testing.T) {
	for _, r := range goodRes() {
		checkComesBack(t, r)
	}
	for b := range 256 {
		checkComesBack(t, reSet(string([]byte{byte(b)})))
		checkComesBack(t, reNot(string([]byte{byte(b)})))
		checkComesBack(t, star(reSet(string([]byte{byte(b)}))))
	}
	const around = "*+,-./Z[\\]^_`a{|}"
	for which := 1; which < 1<<len(around); which++ {
		bytes := ""
		for i := range len(around) {
			if which>>i&1 == 1 {
				bytes += around[i : i+1]
			}
		}
		checkComesBack(t, reSet(bytes))
		checkComesBack(t, reNot(bytes))
	}
	from := rand.New(rand.NewSource(4))
	for range 20000 {
		checkComesBack(t, someRe(from, 1+from.Intn(impl.MaxRe), 0, "ab-]^\\[*"))
	}
}

// someRe tells an expression of at most so many parts, deep parts down.
func someRe(from *rand.Rand, parts int, deep int, signs string) impl.Re {
	if parts < 2 || deep >= impl.MaxNest || from.Intn(8) == 0 {
		return someLeaf(from, signs)
	}
	if kind := from.Intn(5); kind < 4 && parts >= 3 {
		first := someRe(from, 1+from.Intn(parts-2), deep+1, signs)
		second := someRe(from, parts-1-partsOfRe(first), deep, signs)
		return impl.Re{Kind: []int{impl.RCat, impl.RCat, impl.RCat, impl.RAlt}[kind], Kids: []impl.Re{first, second}}
	}
	low := []int{0, 0, 1, from.Intn(3), from.Intn(10)}[from.Intn(5)]
	high := []int{-1, -1, low + from.Intn(10-low), max(low, 1)}[from.Intn(4)]
	return reMany(someRe(from, parts-1, deep+1, signs), low, high)
}

func someLeaf(from *rand.Rand, signs string) impl.Re {
	switch from.Intn(12) {
	case 0:
		return reNone()
	case 1:
		return reByte()
	case 2:
		return reHead()
	case 3:
		return reTail()
	case 4, 5, 6:
		bytes := ""
		for b := range 256 {
			if strings.Contains(signs, string([]byte{byte(b)})) && from.Intn(2) == 0 {
				bytes += string([]byte{byte(b)})
			}
		}
		if bytes != "" {
			return impl.Re{Kind: impl.RSet, Set: bytes, Not: from.Intn(2) == 0}
		}
	}
	at := from.Intn(len(signs))
	return reSet(signs[at : at+1])
}

func partsOfRe(r impl.Re) int {
	parts := 1
	for _, kid := range r.Kids {
		parts += partsOfRe(kid)
	}
	return parts
}

// Every text of few signs either is an expression, whose text tells it again, or
// is none, with the zero value.
func TestTextsOfFewSignsAsExpressions(t *testing.T) {
	taken := 0
	for _, alphabet := range []string{"a|()*", "[]^-a", "a{1,2}", "\\a.$+?", "[]^-bac"} {
		most := 6
		if len(alphabet) > 5 {
			most = 5
		}
		for _, s := range allTexts(alphabet, most) {
			if !parses(t, s) {
				continue
			}
			taken++
			checkComesBack(t, mustRe(t, s))
		}
	}
	if taken < 10000 {
		t.Error(taken)
	}
}

// wantedEnds tells all places behind what r means from place i on, as the words
// of the chapter say, part by part.
func wantedEnds(r impl.Re, s string, i int) map[int]bool {
	ends := map[int]bool{}
	switch r.Kind {
	case impl.RNone:
		ends[i] = true
	case impl.RByte, impl.RSet:
		if i < len(s) && (r.Kind == impl.RByte || strings.Contains(r.Set, s[i:i+1]) != r.Not) {
			ends[i+1] = true
		}
	case impl.RHead:
		if i == 0 {
			ends[i] = true
		}
	case impl.RTail:
		if i == len(s) {
			ends[i] = true
		}
	case impl.RAlt:
		ends = wantedEnds(r.Kids[0], s, i)
		for end := range wantedEnds(r.Kids[1], s, i) {
			ends[end] = true
		}
	case impl.RCat:
		ends = endsFrom(r.Kids[1], s, wantedEnds(r.Kids[0], s, i))
	case impl.RMany:
		now := map[int]bool{i: true}
		high := r.High
		if high == -1 {
			high = r.Low + len(s) + 1
		}
		for times := 0; times <= high && len(now) > 0; times++ {
			for at := range now {
				if times >= r.Low {
					ends[at] = true
				}
			}
			now = endsFrom(r.Kids[0], s, now)
		}
	}
	return ends
}

func endsFrom(r impl.Re, s string, from map[int]bool) map[int]bool {
	ends := map[int]bool{}
	for at := range from {
		for end := range wantedEnds(r, s, at) {
			ends[end] = true
		}
	}
	return ends
}

func wantedMatch(r impl.Re, s string, i int) int {
	end := -1
	for at := range wantedEnds(r, s, i) {
		end = max(end, at)
	}
	return end
}

// checkFinds holds all that is found against what wantedEnds tells.
func checkFinds(t *testing.T, r impl.Re, s string) {
	t.Helper()
	at, end := -1, -1
	for i := len(s); i >= 0; i-- {
		match := wantedMatch(r, s, i)
		if got := impl.MatchAt(r, s, i); got != match {
			t.Errorf("MatchAt(%q, %q, %d) = %d, not %d", impl.ReText(r), s, i, got, match)
		}
		if match >= 0 {
			at, end = i, match
		}
		if gotAt, gotEnd := impl.FindRe(r, s, i); gotAt != at || gotEnd != end {
			t.Errorf("FindRe(%q, %q, %d) = %d, %d, not %d, %d", impl.ReText(r), s, i, gotAt, gotEnd, at, end)
		}
		if match >= 0 && match-i < impl.Least(r) {
			t.Errorf("%q has at least %d bytes, but means %q", impl.ReText(r), impl.Least(r), s[i:match])
		}
	}
	if impl.Has(r, s) != (at >= 0) {
		t.Errorf("Has(%q, %q) = %v", impl.ReText(r), s, at < 0)
	}
}

// smallRes tells all expressions of few parts.
func smallRes() []impl.Re {
	leaves := []impl.Re{reNone(), reByte(), reSet("a"), reNot("a"), reSet("ab"), reHead(), reTail()}
	list := slices.Clone(leaves)
	for range 2 {
		some := list
		list = slices.Clone(leaves)
		for _, r := range some {
			if partsOfRe(r) > 3 {
				continue
			}
			list = append(list, star(r), reMany(r, 1, -1), reMany(r, 0, 1), reMany(r, 2, 2), reMany(r, 1, 3), reMany(r, 2, -1), reMany(r, 0, 0))
			for _, leaf := range leaves {
				list = append(list, reCat(r, leaf), reAlt(leaf, r))
			}
		}
	}
	return list
}

func TestSmallExpressionsFindWhatTheyMean(t *testing.T) {
	texts := allTexts("ab", 4)
	for _, r := range smallRes() {
		checkComesBack(t, r)
		for _, s := range texts {
			checkFinds(t, r, s)
		}
	}
}

func TestGreaterExpressionsFindWhatTheyMean(t *testing.T) {
	from := rand.New(rand.NewSource(17))
	texts := allTexts("ab", 7)
	for range 4000 {
		r := someRe(from, 4+from.Intn(9), 9, "ab")
		for range 4 {
			checkFinds(t, r, texts[from.Intn(len(texts))])
		}
	}
}

// Another reader of such expressions finds the same, the first place and there
// the longest.
func TestExpressionsFindWhatPosixFinds(t *testing.T) {
	from := rand.New(rand.NewSource(41))
	texts := allTexts("abc", 6)
	read := 0
	for range 3000 {
		r := someRe(from, 3+from.Intn(12), 8, "abc")
		other, err := regexp.CompilePOSIX(impl.ReText(r))
		if err != nil {
			continue
		}
		read++
		for range 8 {
			s := texts[from.Intn(len(texts))]
			at, end := impl.FindRe(r, s, 0)
			want := other.FindStringIndex(s)
			if want == nil {
				want = []int{-1, -1}
			}
			if at != want[0] || end != want[1] {
				t.Errorf("FindRe(%q, %q, 0) = %d, %d, not %v", impl.ReText(r), s, at, end, want)
			}
		}
	}
	if read < 2000 {
		t.Error(read)
	}
}

func TestFindRe(t *testing.T) {
	cases := []struct {
		re, s   string
		at, end int
	}{
		{"a", "", -1, -1}, {"", "", 0, 0}, {"", "abc", 0, 0}, {"b", "abc", 1, 2}, {"bc", "abc", 1, 3}, {"abcd", "abc", -1, -1}, {"[b-d]+", "abcde", 1, 4}, {"[^b-d]+$", "abcde", 4, 5}, {"()b", "ab", 1, 2},
		// What is meant by two ways is the longer one, whichever stands first.
		{"a|ab|abc", "abcd", 0, 3}, {"abc|ab|a", "abcd", 0, 3}, {"a|ab", "xab", 1, 3}, {"(a|ab)(c|bcd)", "abcd", 0, 4}, {"(a|ab)(bc|c)?", "abc", 0, 3}, {"a*|b", "b", 0, 1}, {"|a", "a", 0, 1}, {"a|", "ba", 0, 0}, {"(a|aa){2}", "aaaaa", 0, 4}, {"(ab|a)(ba|b)?", "aba", 0, 3}, {"(aa|aaa)*", "aaaaa", 0, 5}, {"(aaa|aa)*$", "aaaa", 0, 4},
		// What is found is the first place, even where a later one is longer.
		{"a|bbb", "abbb", 0, 1}, {"b+|a", "abbb", 0, 1}, {"a*", "baaa", 0, 0}, {"aaa|ba", "baaa", 0, 2},
		{"a*", "aaab", 0, 3}, {"a+", "baab", 1, 3}, {"a?", "aa", 0, 1}, {"a{0}", "aa", 0, 0}, {"a{2}", "aaa", 0, 2}, {"a{2}", "a", -1, -1}, {"a{2,}", "aaaa", 0, 4}, {"a{2,3}", "aaaa", 0, 3}, {"a{9}", strings.Repeat("a", 8), -1, -1}, {"a{9,}", strings.Repeat("a", 20), 0, 20}, {"a{0,9}", strings.Repeat("a", 20), 0, 9}, {"(ab){2}", "ababab", 0, 4}, {"(ab){0,}", "ababa", 0, 4},
		// What may mean nothing at all, more than once.
		{"(a*)*", "aab", 0, 2}, {"(a*)+", "b", 0, 0}, {"(a*)*b", "aaab", 0, 4}, {"(a?){3}", "aa", 0, 2}, {"(a?){2}", "aaa", 0, 2}, {"(a?){2,4}", "aaaaaa", 0, 4}, {"(a?){9,}", "aaaaaaaaaaaa", 0, 12}, {"()*", "a", 0, 0}, {"(()){9}b", "ab", 1, 2}, {"(|a){3}", "aaaa", 0, 3}, {"(a|()){2}b", "aab", 0, 3}, {"((a*)*)*", "aa", 0, 2}, {"((a?){9}){9}", strings.Repeat("a", 100), 0, 81}, {"(a*b*)*c", "abbabc", 0, 6}, {"(a*){2,3}$", "baa", 1, 3},
		{"^a", "aa", 0, 1}, {"^a", "ba", -1, -1}, {"a$", "ba", 1, 2}, {"a$", "ab", -1, -1}, {"^$", "", 0, 0}, {"^$", "a", -1, -1}, {"$", "ab", 2, 2}, {"^", "ab", 0, 0}, {"$^", "", 0, 0}, {"$^", "a", -1, -1}, {"a^b", "ab", -1, -1}, {"a$b", "ab", -1, -1}, {"x*^a", "a", 0, 1}, {"a$x*", "ba", 1, 2}, {"(^a|b)+", "aab", 0, 1}, {"(a|^b)+", "bab", 0, 2}, {"(a|b$)+", "abab", 0, 1}, {"(^)*a", "ba", 1, 2}, {"(^|b)a", "caba", 2, 4}, {"a($|c)", "abac", 2, 4}, {"(^a){2}", "aa", -1, -1}, {"(^a){1,2}", "aa", 0, 1}, {"(^a?){2,}", "aaa", 0, 1}, {"(a?$){2}", "aa", 1, 2}, {"^*a$*", "ba", 1, 2},
		{"a.c", "a\nc", 0, 3}, {"[^a]", "\n", 0, 1}, {"^b", "a\nb", -1, -1}, {"a$", "a\nb", -1, -1}, {".", "\xff", 0, 1}, {"..", "\u00e4", 0, 2}, {"^.$", "\u00e4", -1, -1}, {"[\x80-\xff]+", "a\u00e4b", 1, 3}, {"\xc3", "\u00e4", 0, 1}, {"\x00", "a\x00", 1, 2}, {"[^\x00-\xff]", "abc", -1, -1}, {"[\x00-\xff]+", allBytes(), 0, 256},
		{"\\n", "\nn", 1, 2}, {"\\.", "a.", 1, 2}, {"[.]", "a.", 1, 2}, {"]", "a]", 1, 2}, {"[]a]+", "b]a]", 1, 4}, {"[^]]+", "]]ab]", 2, 4}, {"[a-]+", "b-a-c", 1, 4}, {"[-^]+", "a^-^", 1, 4}, {"a}", "a}", 0, 2},
	}
	for _, c := range cases {
		r := mustRe(t, c.re)
		at, end := impl.FindRe(r, c.s, 0)
		if at != c.at || end != c.end || impl.Has(r, c.s) != (c.at >= 0) {
			t.Errorf("FindRe(%q, %q, 0) = %d, %d; Has: %v", c.re, c.s, at, end, impl.Has(r, c.s))
		}
		if len(c.s) <= 20 {
			checkFinds(t, r, c.s)
		}
	}
}

func TestFindReFromAPlaceOn(t *testing.T) {
	cases := []struct {
		re, s         string
		from, at, end int
	}{
		{"a", "aba", 0, 0, 1}, {"a", "aba", 1, 2, 3}, {"a", "aba", 2, 2, 3}, {"a", "aba", 3, -1, -1}, {"a*", "baa", 1, 1, 3}, {"a*", "baa", 2, 2, 3}, {"a*", "baa", 3, 3, 3}, {"a*", "baa", 4, -1, -1}, {"", "ab", 2, 2, 2}, {"", "ab", 3, -1, -1}, {"", "", 0, 0, 0}, {"", "", 1, -1, -1},
		{"^a", "aa", 1, -1, -1}, {"^", "aa", 1, -1, -1}, {"a$", "aa", 0, 1, 2}, {"$", "aa", 1, 2, 2}, {"$", "aa", 2, 2, 2}, {"$", "aa", 3, -1, -1}, {"ab|b", "ab", 1, 1, 2},
		{"a", "aaa", -1, -1, -1}, {"", "aaa", -1, -1, -1}, {"a", "aaa", math.MinInt, -1, -1}, {"a", "aaa", math.MaxInt, -1, -1}, {"$", "", math.MaxInt, -1, -1}, {"^", "", math.MinInt, -1, -1},
	}
	for _, c := range cases {
		if at, end := impl.FindRe(mustRe(t, c.re), c.s, c.from); at != c.at || end != c.end {
			t.Errorf("FindRe(%q, %q, %d) = %d, %d", c.re, c.s, c.from, at, end)
		}
	}
}

func TestMatchAt(t *testing.T) {
	cases := []struct {
		re, s string
		i     int
		want  int
	}{
		{"b", "ab", 0, -1}, {"b", "ab", 1, 2}, {"b", "ab", 2, -1}, {"b*", "ab", 0, 0}, {"b*", "ab", 2, 2}, {"", "ab", 2, 2}, {"$", "ab", 2, 2}, {"$", "ab", 1, -1}, {"^", "ab", 0, 0}, {"^", "ab", 1, -1}, {"^b", "ab", 1, -1}, {"a|ab", "ab", 0, 2}, {"ab|a", "ab", 0, 2}, {".*", "ab", 1, 2},
		{"", "", 0, 0}, {"", "", 1, -1}, {"", "ab", 3, -1}, {"", "ab", -1, -1}, {"a*", "a", -1, -1}, {"a*", "a", math.MinInt, -1}, {"a*", "a", math.MaxInt, -1}, {"$", "ab", 3, -1}, {"^", "ab", -1, -1},
	}
	for _, c := range cases {
		if got := impl.MatchAt(mustRe(t, c.re), c.s, c.i); got != c.want {
			t.Errorf("MatchAt(%q, %q, %d) = %d", c.re, c.s, c.i, got)
		}
	}
}

func TestLeast(t *testing.T) {
	cases := map[string]int{
		"": 0, "a": 1, ".": 1, "[ab]": 1, "[^a]": 1, "^": 0, "$": 0, "^$": 0, "abc": 3, "a|b": 1, "a|bc": 1, "ab|c": 1, "abc|de": 2, "a|": 0, "|ab": 0, "a*": 0, "a+": 1, "a?": 0, "a{0}": 0, "a{0,5}": 0, "a{3}": 3, "a{3,}": 3, "a{2,4}": 2, "a{9}": 9,
		"(ab){3}": 6, "(ab|c){3}d": 4, "(ab|c)d{2}e*": 3, "(a*)+": 0, "(a+){2,}": 2, "^a.[bc]$": 3, "((ab){2}|cde){2}": 6, "(a?b){4}": 4, "((a{9}){9}){9}": 729,
	}
	for s, want := range cases {
		if got := impl.Least(mustRe(t, s)); got != want {
			t.Errorf("Least(%q) = %d", s, got)
		}
	}
	nine := func(r impl.Re) impl.Re { return reMany(r, 9, 9) }
	if got := impl.Least(reDeep(reByte(), impl.MaxNest, nine)); got != 282429536481 {
		t.Error(got)
	}
}

// Of an expression without ^ and $ some text has just as many bytes as Least.
func TestLeastIsReached(t *testing.T) {
	texts := allTexts("ab", 6)
	for _, r := range smallRes() {
		if strings.ContainsAny(strings.ReplaceAll(impl.ReText(r), "[^", ""), "^$") || impl.Least(r) > 6 {
			continue
		}
		reached := slices.ContainsFunc(texts, func(s string) bool {
			return len(s) == impl.Least(r) && impl.MatchAt(r, s, 0) == len(s)
		})
		if !reached {
			t.Errorf("no text of %d bytes is what %q means", impl.Least(r), impl.ReText(r))
		}
	}
}

// Promise 17: what is no expression has an answer, too.
func TestWhatIsNoExpressionFindsNothing(t *testing.T) {
	for i, r := range badRes() {
		for _, s := range []string{"", "a", "aaa", "\x00"} {
			at, end := impl.FindRe(r, s, 0)
			if impl.MatchAt(r, s, 0) != -1 || at != -1 || end != -1 || impl.Has(r, s) || impl.Least(r) != 0 {
				t.Errorf("%d: kind %d finds something in %q", i, r.Kind, s)
			}
		}
	}
}

func TestExpressionsAreNotWrittenInto(t *testing.T) {
	spare := reSet("z")
	for _, r := range goodRes() {
		for i := range r.Kids {
			r.Kids[i].Kids = append(slices.Clone(r.Kids[i].Kids), spare)[:len(r.Kids[i].Kids)]
		}
		r.Kids = append(slices.Clone(r.Kids), spare)[:len(r.Kids)]
		before := copyRe(r)
		text := impl.ReText(r)
		impl.ReOk(r)
		impl.MatchAt(r, "aab", 0)
		impl.FindRe(r, "aab", 1)
		impl.Has(r, "aab")
		impl.Least(r)
		if !sameRe(r, before) || impl.ReText(r) != text || !sameRe(r.Kids[:len(r.Kids)+1][len(r.Kids)], spare) {
			t.Errorf("%.100q was written into", text)
		}
		for _, kid := range r.Kids {
			if !sameRe(kid.Kids[:len(kid.Kids)+1][len(kid.Kids)], spare) {
				t.Errorf("%.100q was written into behind a kid's kids", text)
			}
		}
	}
}

func TestExpressionsAreNew(t *testing.T) {
	for _, s := range []string{"ab", "(a|b)*(a|b)*", "a{2}|(bc)+", "aaaa"} {
		first, second := mustRe(t, s), mustRe(t, s)
		spoil(first)
		if impl.ReText(second) != impl.ReText(mustRe(t, s)) {
			t.Errorf("two expressions of %q share memory", s)
		}
	}
	r := mustRe(t, "(ab)(ab)")
	r.Kids[0].Kids[0] = reByte()
	if got := impl.ReText(r); got != "(.b)ab" {
		t.Errorf("two lists of one expression share memory: %q", got)
	}
}

func spoil(r impl.Re) {
	for i := range r.Kids {
		spoil(r.Kids[i])
		r.Kids[i] = impl.Re{Kind: 9}
	}
	_ = append(r.Kids, impl.Re{Kind: 9})
}

// Loops in loops take no time that grows with each one, whatever they are asked
// of: no answer is kept waiting for.
func TestLoopsInLoopsEnd(t *testing.T) {
	begin := time.Now()
	long := strings.Repeat("a", impl.MaxText)
	for _, leaf := range []string{"a", "a?", "(a|ab)", "(a|^)", "(a|$)", "()", "[^b]"} {
		for _, times := range []string{"*", "+", "{9}", "{0,9}", "{2,}", "{1,3}"} {
			plain, other := leaf, leaf
			for range 10 {
				plain = "(" + plain + ")" + times
			}
			for range 5 {
				other = "(a|" + other + "b)" + times
			}
			for _, s := range []string{plain, other, other + "c"} {
				r := mustRe(t, s)
				at, end := impl.FindRe(r, long, 0)
				if end != impl.MatchAt(r, long, max(at, 0)) || impl.Has(r, long) != (at >= 0) {
					t.Errorf("%q: %d, %d", s, at, end)
				}
			}
		}
	}
	if time.Since(begin) > time.Minute {
		t.Error(time.Since(begin))
	}
}

func TestExpressionsInTextsOfEverySize(t *testing.T) {
	for _, size := range []int{63, 64, 65, 127, 128, 129, impl.MaxText - 1, impl.MaxText, impl.MaxText + 1, 100000} {
		s := strings.Repeat("a", size)
		cases := []struct {
			re      string
			s       string
			at, end int
		}{
			{"a*", s, 0, size}, {"a+$", s, 0, size}, {"a*b", s, -1, -1}, {"a*b", s + "b", 0, size + 1}, {"a$", s, size - 1, size}, {"$", s, size, size}, {"^a", s, 0, 1}, {"(a|aa)*", s, 0, size}, {"b", s + "b" + s, size, size + 1}, {"[^a].", s + "b" + s, size, size + 2}, {"ba*", s + "b" + s, size, 2*size + 1}, {"", s, 0, 0}, {"a{9}$", s, size - 9, size},
		}
		for _, c := range cases {
			r := mustRe(t, c.re)
			if at, end := impl.FindRe(r, c.s, 0); at != c.at || end != c.end || impl.Has(r, c.s) != (at >= 0) {
				t.Errorf("%q in %d bytes: %d, %d", c.re, len(c.s), at, end)
			}
		}
		if at, end := impl.FindRe(mustRe(t, "a*"), s, size-1); at != size-1 || end != size {
			t.Errorf("a* at the end of %d bytes: %d, %d", size, at, end)
		}
		if impl.ReText(reSet(s)) != "" || impl.ReOk(reNot(s)) {
			t.Errorf("a set of %d bytes is no expression", size)
		}
		parses(t, s)
		parses(t, "["+s)
		parses(t, strings.Repeat("(", size))
		parses(t, strings.Repeat("|", size))
		parses(t, strings.Repeat("\\", size))
	}
}
