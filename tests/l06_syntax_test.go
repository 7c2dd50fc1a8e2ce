package tests

import (
	"maps"
	"math"
	"math/rand"
	"slices"
	"strings"
	"testing"
	"time"

	"loop.example/g00560/impl"
)

func eNode(kind int, text string, kids ...impl.Node) impl.Node {
	return impl.Node{Kind: kind, Text: text, Kids: kids}
}

func eNum(n int) impl.Node { return impl.Node{Kind: impl.ENum, N: n * impl.One} }

func eStr(s string) impl.Node { return eNode(impl.EStr, s) }

func eRe(s string) impl.Node { return eNode(impl.ERe, s) }

func eVar(name string) impl.Node { return eNode(impl.EVar, name) }

func eField(kid impl.Node) impl.Node { return eNode(impl.EField, "", kid) }

func eIndex(name string, kid impl.Node) impl.Node { return eNode(impl.EIndex, name, kid) }

func eSet(sign string, a impl.Node, b impl.Node) impl.Node { return eNode(impl.ESet, sign, a, b) }

func eCond(a impl.Node, b impl.Node, c impl.Node) impl.Node { return eNode(impl.ECond, "", a, b, c) }

func eOr(a impl.Node, b impl.Node) impl.Node { return eNode(impl.EOr, "", a, b) }

func eAnd(a impl.Node, b impl.Node) impl.Node { return eNode(impl.EAnd, "", a, b) }

func eIn(a impl.Node, name string) impl.Node { return eNode(impl.EIn, name, a) }

func eMatch(sign string, a impl.Node, b impl.Node) impl.Node { return eNode(impl.EMatch, sign, a, b) }

func eCmp(sign string, a impl.Node, b impl.Node) impl.Node { return eNode(impl.ECmp, sign, a, b) }

func eCat(a impl.Node, b impl.Node) impl.Node { return eNode(impl.ECat, "", a, b) }

func eOp(sign string, a impl.Node, b impl.Node) impl.Node { return eNode(impl.EOp, sign, a, b) }

func eNot(kid impl.Node) impl.Node { return eNode(impl.ENot, "", kid) }

func eNeg(kid impl.Node) impl.Node { return eNode(impl.ENeg, "", kid) }

func ePre(sign string, kid impl.Node) impl.Node { return eNode(impl.EPre, sign, kid) }

func ePost(sign string, kid impl.Node) impl.Node { return eNode(impl.EPost, sign, kid) }

func eCall(name string, kids ...impl.Node) impl.Node { return eNode(impl.ECall, name, kids...) }

func sExp(kid impl.Node) impl.Node { return eNode(impl.SExp, "", kid) }

func sPrint(kids ...impl.Node) impl.Node { return eNode(impl.SPrint, "", kids...) }

func sPrintf(kids ...impl.Node) impl.Node { return eNode(impl.SPrintf, "", kids...) }

func sIf(kids ...impl.Node) impl.Node { return eNode(impl.SIf, "", kids...) }

func sWhile(test impl.Node, body impl.Node) impl.Node { return eNode(impl.SWhile, "", test, body) }

func sFor(name string, array string, body impl.Node) impl.Node {
	return eNode(impl.SFor, name, eVar(array), body)
}

func sNext() impl.Node { return eNode(impl.SNext, "") }

func sExit() impl.Node { return eNode(impl.SExit, "") }

func sDel(name string, kid impl.Node) impl.Node { return eNode(impl.SDel, name, kid) }

func sBlock(kids ...impl.Node) impl.Node { return eNode(impl.SBlock, "", kids...) }

func rAll(body ...impl.Node) impl.Rule { return impl.Rule{When: impl.WAll, Body: sBlock(body...)} }

func rPat(pat impl.Node, body ...impl.Node) impl.Rule {
	return impl.Rule{When: impl.WPat, Pat: pat, Body: sBlock(body...)}
}

func rBegin(body ...impl.Node) impl.Rule {
	return impl.Rule{When: impl.WBegin, Body: sBlock(body...)}
}

func rEnd(body ...impl.Node) impl.Rule { return impl.Rule{When: impl.WEnd, Body: sBlock(body...)} }

// inRule tells a program of an expression, and inBlock one of statements.
func inRule(e impl.Node) []impl.Rule { return []impl.Rule{rPat(e, sPrint())} }

func inBlock(list ...impl.Node) []impl.Rule { return []impl.Rule{rAll(list...)} }

func sameNode(a impl.Node, b impl.Node) bool {
	return a.Kind == b.Kind && a.N == b.N && a.Text == b.Text && slices.EqualFunc(a.Kids, b.Kids, sameNode)
}

func sameRules(a []impl.Rule, b []impl.Rule) bool {
	return slices.EqualFunc(a, b, func(x impl.Rule, y impl.Rule) bool {
		return x.When == y.When && sameNode(x.Pat, y.Pat) && sameNode(x.Body, y.Body)
	})
}

func copyNode(n impl.Node) impl.Node {
	kids := []impl.Node{}
	for _, kid := range n.Kids {
		kids = append(kids, copyNode(kid))
	}
	n.Kids = kids
	return n
}

func copyRules(p []impl.Rule) []impl.Rule {
	list := []impl.Rule{}
	for _, rule := range p {
		list = append(list, impl.Rule{When: rule.When, Pat: copyNode(rule.Pat), Body: copyNode(rule.Body)})
	}
	return list
}

func checkProg(t *testing.T, s string, want ...impl.Rule) {
	t.Helper()
	p, line := impl.Parse(s)
	if line != 0 || !sameRules(p, want) {
		t.Fatalf("Parse(%.300q) = %v, %d, not %v", s, p, line, want)
	}
	checkProgComesBack(t, p)
}

// checkProgComesBack is promise 6, for one program.
func checkProgComesBack(t *testing.T, p []impl.Rule) {
	t.Helper()
	if !impl.ProgOk(p) {
		t.Fatalf("no program: %v", p)
	}
	s := impl.ShowProg(p)
	if want := wantedShow(p); s != want {
		t.Fatalf("ShowProg of %v = %.300q, not %.300q", p, s, want)
	}
	if len(s) <= impl.MaxText {
		again, line := impl.Parse(s)
		if line != 0 || !sameRules(again, p) || !impl.SameProg(again, p) {
			t.Fatalf("%.300q comes back as %v, %d, not %v", s, again, line, p)
		}
	}
	arrays := impl.Arrays(p)
	for _, name := range impl.Scalars(p) {
		if slices.Contains(arrays, name) {
			t.Fatalf("%q is an array's name and another thing's in %v", name, p)
		}
	}
}

// checkExp is told of an expression at each place where one may stand.
func checkExp(t *testing.T, s string, e impl.Node) {
	t.Helper()
	checkProg(t, s, inRule(e)...)
	checkProg(t, "{ "+s+" }", inBlock(sExp(e))...)
	checkProg(t, "{ print ("+s+"), "+s+"\n}", inBlock(sPrint(e, e))...)
	checkProg(t, "{ if ("+s+") length("+s+") }", inBlock(sIf(e, sBlock(sExp(eCall("length", e)))))...)
	checkProg(t, s+" { qq["+s+"] = $("+s+") }", rPat(e, sExp(eSet("=", eIndex("qq", e), eField(e)))))
}

func checkNoProg(t *testing.T, s string, line int) {
	t.Helper()
	if p, bad := impl.Parse(s); bad != line || len(p) != 0 {
		t.Errorf("Parse(%.300q) = %v, %d, not %d", s, p, bad, line)
	}
}

// checkNoExp is told of what does not fit as an expression.
func checkNoExp(t *testing.T, s string) {
	t.Helper()
	checkNoProg(t, "\n\n"+s, 3)
	checkNoProg(t, "{\n"+s+"\n}", 2)
	checkNoProg(t, "{ }\n{ x = ("+s+")\n}", 2)
}

// wantedShow tells the text of a program by its own means: with the forms of
// kinds.
func wantedShow(p []impl.Rule) string {
	out := ""
	for _, rule := range p {
		head := map[int]string{impl.WBegin: "BEGIN ", impl.WEnd: "END ", impl.WAll: ""}[rule.When]
		if rule.When == impl.WPat {
			head = wantedText(rule.Pat) + " "
		}
		out += head + wantedText(rule.Body) + "\n"
	}
	return out
}

func wantedText(n impl.Node) string {
	list := []string{}
	for _, kid := range n.Kids {
		list = append(list, wantedText(kid))
	}
	switch n.Kind {
	case impl.ENum:
		return impl.NumText(n.N)
	case impl.EStr:
		return impl.Quote(n.Text)
	case impl.ERe:
		return "/" + n.Text + "/"
	case impl.ECat:
		if n.Kids[1].Kind == impl.ERe {
			return "(" + list[0] + " (" + list[1] + "))"
		}
	case impl.SIf:
		if len(list) == 3 {
			return "if (" + list[0] + ") " + list[1] + " else " + list[2]
		}
	case impl.SBlock:
		if len(list) == 0 {
			return "{ }"
		}
		return "{ " + strings.Join(list, "; ") + " }"
	case impl.SPrint:
		if len(list) == 0 {
			return "print"
		}
	}
	out := ""
	for _, sign := range showForms()[n.Kind] {
		switch {
		case sign == 'T':
			out += n.Text
		case sign == 'L':
			out += strings.Join(list, ", ")
		case '1' <= sign && sign <= '3':
			out += list[sign-'1']
		default:
			out += string(sign)
		}
	}
	return out
}

// showForms: T stands for the Text, L for all kids, numbers for one.
func showForms() map[int]string {
	return map[int]string{
		impl.EField: "$1", impl.EVar: "T", impl.EIndex: "T[1]", impl.ESet: "(1 T 2)", impl.ECond: "(1 ? 2 : 3)", impl.EOr: "(1 || 2)", impl.EAnd: "(1 && 2)", impl.EIn: "(1 in T)", impl.EMatch: "(1 T 2)", impl.ECmp: "(1 T 2)", impl.ECat: "(1 2)", impl.EOp: "(1 T 2)", impl.ENot: "(!1)", impl.ENeg: "(-1)", impl.EPre: "(T1)", impl.EPost: "(1T)", impl.ECall: "T(L)",
		impl.SExp: "1", impl.SPrint: "print L", impl.SPrintf: "printf L", impl.SIf: "if (1) 2", impl.SWhile: "while (1) 2", impl.SFor: "for (T in 1) 2", impl.SNext: "next", impl.SExit: "exit", impl.SDel: "delete T[1]",
	}
}

func TestKindsOfNodes(t *testing.T) {
	exps := []int{impl.ENum, impl.EStr, impl.ERe, impl.EField, impl.EVar, impl.EIndex, impl.ESet, impl.ECond, impl.EOr, impl.EAnd, impl.EIn, impl.EMatch, impl.ECmp, impl.ECat, impl.EOp, impl.ENot, impl.ENeg, impl.EPre, impl.EPost, impl.ECall}
	statements := []int{impl.SExp, impl.SPrint, impl.SPrintf, impl.SIf, impl.SWhile, impl.SFor, impl.SNext, impl.SExit, impl.SDel, impl.SBlock}
	for i, kind := range slices.Concat(exps, statements) {
		if kind != i {
			t.Errorf("kind %d is %d", i, kind)
		}
	}
	if !slices.Equal([]int{impl.WAll, impl.WPat, impl.WBegin, impl.WEnd}, []int{0, 1, 2, 3}) {
		t.Error("when")
	}
	if impl.MaxRules != 20 || impl.MaxNodes != 400 || impl.MaxDeep != 30 {
		t.Error("limits")
	}
}

// callCounts tells of each call how many kids it may have at least and at most.
func callCounts() map[string][2]int {
	return map[string][2]int{"length": {0, 1}, "substr": {2, 3}, "index": {2, 2}, "tolower": {1, 1}, "toupper": {1, 1}, "int": {1, 1}, "split": {2, 3}, "sub": {2, 3}, "gsub": {2, 3}, "match": {2, 2}, "sprintf": {1, 8}}
}

func ownNames() []string { return []string{"NF", "NR", "FS", "OFS", "ORS", "RSTART", "RLENGTH"} }

func TestIsCall(t *testing.T) {
	calls := callCounts()
	for name := range calls {
		for _, s := range []string{name, name[1:], name[:len(name)-1], "g" + name, "s" + name, name + "s", name + " ", " " + name, name + "\x00", name + "(", strings.ToUpper(name), strings.ToUpper(name[:1]) + name[1:]} {
			if _, want := calls[s]; impl.IsCall(s) != want {
				t.Errorf("IsCall(%q) = %v", s, !want)
			}
		}
	}
	for _, s := range slices.Concat(allKeys(), ownNames(), []string{"", "x", "f", "rand", "sin", "log", "system", "close", "gensub", "getline", "func", "\xff", strings.Repeat("sub", 50000)}) {
		if impl.IsCall(s) {
			t.Errorf("IsCall(%.100q)", s)
		}
	}
}

func TestParseSingles(t *testing.T) {
	x := eVar("x")
	cases := map[string]impl.Node{
		"0": eNum(0), "7": eNum(7), "1.5": {Kind: impl.ENum, N: 1500000}, "0.000001": {Kind: impl.ENum, N: 1}, "1000000": {Kind: impl.ENum, N: impl.MaxNum}, "007.50": {Kind: impl.ENum, N: 7500000},
		`""`: eStr(""), `"a"`: eStr("a"), `"a b\n\"/#;"`: eStr("a b\n\"/#;"), `"\377"`: eStr("\xff"),
		"/a/": eRe("a"), "//": eRe(""), `/\/ "#;/`: eRe(`\/ "#;`), "/=/": eRe("="), "/[a-z]+|b/": eRe("[a-z]+|b"),
		"x": x, "NF": eVar("NF"), "_": eVar("_"), "abcdefghijklmnopqrst": eVar("abcdefghijklmnopqrst"),
		"a[1]": eIndex("a", eNum(1)), "a [ 1 ]": eIndex("a", eNum(1)), "a[x = 1]": eIndex("a", eSet("=", x, eNum(1))), "a[b[1]]": eIndex("a", eIndex("b", eNum(1))), "a[a[a[x]]]": eIndex("a", eIndex("a", eIndex("a", x))), "a[/b/]": eIndex("a", eRe("b")), "a[x in a]": eIndex("a", eIn(x, "a")),
		"$1": eField(eNum(1)), "$x": eField(x), "$$x": eField(eField(x)), "$$$0": eField(eField(eField(eNum(0)))), "$a[1]": eField(eIndex("a", eNum(1))), "$(x)": eField(x), "$(x + 1)": eField(eOp("+", x, eNum(1))), `$"1"`: eField(eStr("1")), "$/a/": eField(eRe("a")), "$length(x)": eField(eCall("length", x)), "$++x": eField(ePre("++", x)), "$--$x": eField(ePre("--", eField(x))), "$(-1)": eField(eNeg(eNum(1))),
		"(x)": x, "((x))": x, "( ( ( 1 ) ) )": eNum(1), "(/a/)": eRe("a"),
		"++x": ePre("++", x), "--x": ePre("--", x), "++$1": ePre("++", eField(eNum(1))), "--a[x]": ePre("--", eIndex("a", x)), "++(x)": ePre("++", x), "++((a[1]))": ePre("++", eIndex("a", eNum(1))), "++$++x": ePre("++", eField(ePre("++", x))), "--$(x++)": ePre("--", eField(ePost("++", x))),
		"x++": ePost("++", x), "x--": ePost("--", x), "$1++": ePost("++", eField(eNum(1))), "a[x]--": ePost("--", eIndex("a", x)), "(x)++": ePost("++", x), "((a[1]))--": ePost("--", eIndex("a", eNum(1))), "$$1++": ePost("++", eField(eField(eNum(1)))), "$++x++": ePost("++", eField(ePre("++", x))), "$(x)++": ePost("++", eField(x)), "($x)++": ePost("++", eField(x)), "$(x++)": eField(ePost("++", x)), "$a[1]--": ePost("--", eField(eIndex("a", eNum(1)))), "x ++": ePost("++", x),
	}
	for s, e := range cases {
		checkExp(t, s, e)
	}
	for _, s := range []string{"$", "$ -1", "$!x", "$+1", "$()", "()", "( )", "(x", "x)", "((x)", "(x))", "(x, y)", "a[]", "a[1", "a 1]", "a[1]]", "a[1][2]", "a[1, 2]", "(a)[1]", "1[2]", "$a][", "[1]", "+x", "+ 1", "*x", "^x", "?", ":", ",", "=", "~x", "&& x", "in", "in x", "x in", "else", "BEGIN", "/a/ /b/", "@", ".5"} {
		checkNoExp(t, s)
	}
}

func TestParseStepsOfPlacesAlone(t *testing.T) {
	places := map[string]impl.Node{"x": eVar("x"), "a[1]": eIndex("a", eNum(1)), "$1": eField(eNum(1)), "$x": eField(eVar("x")), "NF": eVar("NF")}
	nones := []string{"1", `"a"`, "/a/", "length(x)", "length()", "x++", "--x", "(x y)", "(x = 1)", "(x + y)", "(-x)", "(!x)", "(x ? y : z)", "(x in a)", "(x ~ y)", "(x == y)", "(x || y)", "(x && y)", "(1)", "(x++)", "(++x)", "(length(x))", "(/a/)", "($1 $2)"}
	for s, place := range places {
		for _, in := range []string{s, "(" + s + ")", "((" + s + "))"} {
			for _, sign := range []string{"++", "--"} {
				checkExp(t, sign+in, ePre(sign, place))
				checkExp(t, in+sign, ePost(sign, place))
			}
			for _, sign := range []string{"=", "+=", "-=", "*=", "/=", "%="} {
				checkExp(t, in+" "+sign+" 1", eSet(sign, place, eNum(1)))
				checkExp(t, in+sign+in, eSet(sign, place, place))
			}
		}
	}
	for _, s := range nones {
		for _, sign := range []string{"++", "--"} {
			checkNoExp(t, s+" "+sign)
			checkNoExp(t, "y = "+s+" "+sign)
			checkNoExp(t, sign+" "+s)
		}
		for _, sign := range []string{"=", "+=", "-=", "*=", "%=", "/="} {
			checkNoExp(t, s+" "+sign+" 1")
			checkNoExp(t, "y = "+s+" "+sign+" 1")
		}
	}
	for _, s := range []string{"++", "--", "x ++ ++", "x ++ --", "++ ++ x", "++x++", "++ -- x", "++x = 1", "x++ = 1", "++", "= 1", "x =", "x = = 1", "x += ", "-x = 1", "!x = 1", "x + y = 1", "x y = 1", "x || y = 1", "x && y = 1", "x ~ y = 1", "x < y = 1", "x ^ y = 1", "-x++ = 1", "1 ++ x", "x == y = 1", "x in a = 1", "++1", "--(1)", "x ^= 1", "x &&= 1", "x ? y : 1 = 2"} {
		checkNoExp(t, s)
	}
}

func TestParseTwoBehindEachOther(t *testing.T) {
	x, y, z, one := eVar("x"), eVar("y"), eVar("z"), eNum(1)
	cases := map[string]impl.Node{
		"x y": eCat(x, y), "x y z": eCat(eCat(x, y), z), "x (y z)": eCat(x, eCat(y, z)), "x y z 1": eCat(eCat(eCat(x, y), z), one),
		"1 x": eCat(one, x), "1x": eCat(one, x), `"a" x`: eCat(eStr("a"), x), `"a"x`: eCat(eStr("a"), x), "/a/ x": eCat(eRe("a"), x), "(x) y": eCat(x, y), "(x)y": eCat(x, y), "a[1] y": eCat(eIndex("a", one), y), "a[1]y": eCat(eIndex("a", one), y), "length(x) y": eCat(eCall("length", x), y), "length()y": eCat(eCall("length"), y), "$1 y": eCat(eField(one), y), "x++ y": eCat(ePost("++", x), y), "x ++ y": eCat(ePost("++", x), y), "x -- y": eCat(ePost("--", x), y), "++x y": eCat(ePre("++", x), y),
		"x 1": eCat(x, one), `x "a"`: eCat(x, eStr("a")), `x"a"`: eCat(x, eStr("a")), "x $1": eCat(x, eField(one)), "x$1": eCat(x, eField(one)), "x (y)": eCat(x, y), "x(y)": eCat(x, y), "x a[1]": eCat(x, eIndex("a", one)), "x length(y)": eCat(x, eCall("length", y)), "x length()": eCat(x, eCall("length")), "x (/a/)": eCat(x, eRe("a")), "x (-1)": eCat(x, eNeg(one)), "x (++y)": eCat(x, ePre("++", y)), "1 1": eCat(one, one), `"a" "b"`: eCat(eStr("a"), eStr("b")), `"a""b"`: eCat(eStr("a"), eStr("b")), "$1 $1": eCat(eField(one), eField(one)), "$1$1": eCat(eField(one), eField(one)), "$x(y)": eCat(eField(x), y), "f(x)": eCat(eVar("f"), x), "x y++": eCat(x, ePost("++", y)), "x ++y++": eCat(ePost("++", x), ePost("++", y)), "NF(x)": eCat(eVar("NF"), x),
		"x y + z": eCat(x, eOp("+", y, z)), "x + y z": eCat(eOp("+", x, y), z), "x - y z - 1": eCat(eOp("-", x, y), eOp("-", z, one)), "x y - z": eCat(x, eOp("-", y, z)), "x -y": eOp("-", x, y), "x - y": eOp("-", x, y), "x y -1": eCat(x, eOp("-", y, one)), "x * y z": eCat(eOp("*", x, y), z), "x y * z": eCat(x, eOp("*", y, z)), "-x y": eCat(eNeg(x), y), "!x y": eCat(eNot(x), y), "x y ^ z": eCat(x, eOp("^", y, z)), "x ^ y z": eCat(eOp("^", x, y), z), "x ^ -y z": eCat(eOp("^", x, eNeg(y)), z),
		"x y < z": eCmp("<", eCat(x, y), z), "x < y z": eCmp("<", x, eCat(y, z)), "x y < z 1": eCmp("<", eCat(x, y), eCat(z, one)), "x y ~ z": eMatch("~", eCat(x, y), z), "x ~ y z": eMatch("~", x, eCat(y, z)), "x y !~ z": eMatch("!~", eCat(x, y), z), "x != y": eCmp("!=", x, y),
		"x / y / z": eOp("/", eOp("/", x, y), z), "x /y/ z": eOp("/", eOp("/", x, y), z), "(x) /y/ z": eOp("/", eOp("/", x, y), z),
	}
	for s, e := range cases {
		checkExp(t, s, e)
	}
	for _, s := range []string{"x !y", "x ! y", "1 !x", "x ++ ++ y", "x /a/", "(x) /a/", "a[1] /a/", "x++ /a/", `"a" /a/`, "1 /a/", "/a/ /a/", "length() /a/", "x ,y", "x y,", "x ] y", "x in in a", "x BEGIN", "x print y", "x { y", "x : y", "x @ y", "x + + y", "x y + ", "x if (y) z"} {
		checkNoExp(t, s)
	}
}

// Each level against itself, the next looser and the next tighter one.
func TestParseLevels(t *testing.T) {
	x, y, z, w := eVar("x"), eVar("y"), eVar("z"), eVar("w")
	cases := map[string]impl.Node{
		"x = y = z": eSet("=", x, eSet("=", y, z)), "x += y -= z": eSet("+=", x, eSet("-=", y, z)), "x = y ? z : w": eSet("=", x, eCond(y, z, w)), "x ? y = 1 : z": eCond(x, eSet("=", y, eNum(1)), z), "x ? y : z = w": eCond(x, y, eSet("=", z, w)), "x = y ? z : w = 1": eSet("=", x, eCond(y, z, eSet("=", w, eNum(1)))), "(x ? y : z) ? w : 1": eCond(eCond(x, y, z), w, eNum(1)), "x = y || z": eSet("=", x, eOr(y, z)), "x ? y = z : w": eCond(x, eSet("=", y, z), w),
		"x ? y : z ? w : 1": eCond(x, y, eCond(z, w, eNum(1))), "x ? y ? z : w : 1": eCond(x, eCond(y, z, w), eNum(1)), "x || y ? z : w": eCond(eOr(x, y), z, w), "x ? y || z : w": eCond(x, eOr(y, z), w), "x ? y : z || w": eCond(x, y, eOr(z, w)), "x || (y ? z : w)": eOr(x, eCond(y, z, w)),
		"x || y || z": eOr(eOr(x, y), z), "x || (y || z)": eOr(x, eOr(y, z)), "x || y && z": eOr(x, eAnd(y, z)), "x && y || z": eOr(eAnd(x, y), z), "x && (y || z)": eAnd(x, eOr(y, z)), "x && y || z && w": eOr(eAnd(x, y), eAnd(z, w)),
		"x && y && z": eAnd(eAnd(x, y), z), "x && y in a": eAnd(x, eIn(y, "a")), "x in a && y": eAnd(eIn(x, "a"), y), "x in a || y": eOr(eIn(x, "a"), y), "(x && y) in a": eIn(eAnd(x, y), "a"),
		"x in a in b": eIn(eIn(x, "a"), "b"), "x in a in b in a": eIn(eIn(eIn(x, "a"), "b"), "a"), "x ~ y in a": eIn(eMatch("~", x, y), "a"), "x !~ (y in a)": eMatch("!~", x, eIn(y, "a")), "(x in a) ~ y": eMatch("~", eIn(x, "a"), y), "x in a ? y : z": eCond(eIn(x, "a"), y, z), "x = y in a": eSet("=", x, eIn(y, "a")), "x y in a": eIn(eCat(x, y), "a"), "!x in a": eIn(eNot(x), "a"), "x++ in a": eIn(ePost("++", x), "a"), "(x in a)": eIn(x, "a"), "1 in a": eIn(eNum(1), "a"), "/a/ in a": eIn(eRe("a"), "a"), "a[x in a] in a": eIn(eIndex("a", eIn(x, "a")), "a"),
		"x ~ y ~ z": eMatch("~", eMatch("~", x, y), z), "x ~ y !~ z ~ w": eMatch("~", eMatch("!~", eMatch("~", x, y), z), w), "x ~ (y ~ z)": eMatch("~", x, eMatch("~", y, z)), "x ~ y < z": eMatch("~", x, eCmp("<", y, z)), "x < y ~ z": eMatch("~", eCmp("<", x, y), z), "x < y ~ z < w": eMatch("~", eCmp("<", x, y), eCmp("<", z, w)), "(x ~ y) < z": eCmp("<", eMatch("~", x, y), z), "x ~ /a/": eMatch("~", x, eRe("a")), "/a/ ~ /b/": eMatch("~", eRe("a"), eRe("b")), "x ~ -y": eMatch("~", x, eNeg(y)), "x ~ !y": eMatch("~", x, eNot(y)),
		"x < y": eCmp("<", x, y), "x <= y": eCmp("<=", x, y), "x == y": eCmp("==", x, y), "x != y": eCmp("!=", x, y), "x > y": eCmp(">", x, y), "x >= y": eCmp(">=", x, y), "x < (y < z)": eCmp("<", x, eCmp("<", y, z)), "(x == y) == z": eCmp("==", eCmp("==", x, y), z), "x < -y": eCmp("<", x, eNeg(y)), "x && y == z || w > 1": eOr(eAnd(x, eCmp("==", y, z)), eCmp(">", w, eNum(1))), "x == y in a": eIn(eCmp("==", x, y), "a"),
		"x + y + z": eOp("+", eOp("+", x, y), z), "x - y + z": eOp("+", eOp("-", x, y), z), "x - (y + z)": eOp("-", x, eOp("+", y, z)), "x + y * z": eOp("+", x, eOp("*", y, z)), "x * y + z": eOp("+", eOp("*", x, y), z), "(x + y) * z": eOp("*", eOp("+", x, y), z), "x % y - z / w": eOp("-", eOp("%", x, y), eOp("/", z, w)), "x + -y": eOp("+", x, eNeg(y)), "x - -y": eOp("-", x, eNeg(y)), "x-y": eOp("-", x, y), "x + ++y": eOp("+", x, ePre("++", y)), "x++ + y": eOp("+", ePost("++", x), y), "x+++y": eOp("+", ePost("++", x), y), "x - --y": eOp("-", x, ePre("--", y)),
		"x * y * z": eOp("*", eOp("*", x, y), z), "x / y % z * w": eOp("*", eOp("%", eOp("/", x, y), z), w), "x * (y / z)": eOp("*", x, eOp("/", y, z)), "x * -y": eOp("*", x, eNeg(y)), "-x * y": eOp("*", eNeg(x), y), "x * !y": eOp("*", x, eNot(y)), "!x * y": eOp("*", eNot(x), y), "-(x * y)": eNeg(eOp("*", x, y)), "x / /a/": eOp("/", x, eRe("a")), "x % -y * z": eOp("*", eOp("%", x, eNeg(y)), z),
		"-x": eNeg(x), "!x": eNot(x), "- -x": eNeg(eNeg(x)), "!!x": eNot(eNot(x)), "-!x": eNeg(eNot(x)), "!-x": eNot(eNeg(x)), "- - - x": eNeg(eNeg(eNeg(x))), "-x ^ y": eNeg(eOp("^", x, y)), "!x ^ y": eNot(eOp("^", x, y)), "(-x) ^ y": eOp("^", eNeg(x), y), "-x++": eNeg(ePost("++", x)), "- ++x": eNeg(ePre("++", x)), "-++x": eNeg(ePre("++", x)), "-1": eNeg(eNum(1)), "!/a/": eNot(eRe("a")), "-$1": eNeg(eField(eNum(1))), "!x ~ y": eMatch("~", eNot(x), y), "!(x ~ y)": eNot(eMatch("~", x, y)), "!x == y": eCmp("==", eNot(x), y), "-x + y": eOp("+", eNeg(x), y), "- -x ^ - -y": eNeg(eNeg(eOp("^", x, eNeg(eNeg(y))))),
		"x ^ y": eOp("^", x, y), "x ^ y ^ z": eOp("^", x, eOp("^", y, z)), "(x ^ y) ^ z": eOp("^", eOp("^", x, y), z), "x ^ -y": eOp("^", x, eNeg(y)), "x ^ !y": eOp("^", x, eNot(y)), "x ^ - - !y": eOp("^", x, eNeg(eNeg(eNot(y)))), "x ^ -y ^ z": eOp("^", x, eNeg(eOp("^", y, z))), "x ^ !y ^ -z": eOp("^", x, eNot(eOp("^", y, eNeg(z)))), "x ^ -y * z": eOp("*", eOp("^", x, eNeg(y)), z), "x ^ y * z": eOp("*", eOp("^", x, y), z), "x * y ^ z": eOp("*", x, eOp("^", y, z)), "x ^ y++": eOp("^", x, ePost("++", y)), "x++ ^ y": eOp("^", ePost("++", x), y), "++x ^ y": eOp("^", ePre("++", x), y), "x ^ ++y": eOp("^", x, ePre("++", y)), "$x ^ y": eOp("^", eField(x), y), "-x ^ 2 ^ -y": eNeg(eOp("^", x, eOp("^", eNum(2), eNeg(y)))), "x ^ (-y) ^ z": eOp("^", x, eOp("^", eNeg(y), z)),
		"$NF - 1": eOp("-", eField(eVar("NF")), eNum(1)), "$x + y": eOp("+", eField(x), y), "$x[1] y": eCat(eField(eIndex("x", eNum(1))), y),
	}
	for s, e := range cases {
		checkExp(t, s, e)
	}
	for _, s := range []string{
		"x == y == z", "x < y > z", "x < y <= z", "x != y == z", "x < y < z < w", "x < = y", "x < < y", "x > > y",
		"x in a ~ y", "x in a < y", "x in a y", "x in a + y", "x in a ^ y", "x in a++", "x in a[1]", "x in (a)", "x in 1", "x in $1", "x in \"a\"", "x in /a/",
		"x ?", "x ? y", "x ? y :", "x ? : y", "? y : z", "x : y", "x ? y : z :", "x ? y ? z : w", "x ? y, z : w",
		"x ||", "|| x", "x || || y", "x && && y", "x && || y", "x ~", "x ~ ~ y", "x ~ = y", "x !~", "x ! ~ y", "x ^", "x ^ ^ y", "x ^ * y", "x ^ + y", "x * * y", "x + * y", "x * / y", "x -", "!", "-", "! ", "x !", "-+x", "x / ", "x % % y", "x - + y",
	} {
		checkNoExp(t, s)
	}
}

func TestParseCalls(t *testing.T) {
	for name, counts := range callCounts() {
		for many := range 10 {
			kids, texts := []impl.Node{}, []string{}
			for i := range many {
				kid, text := eVar(string(rune('p'+i))), string(rune('p'+i))
				if name == "split" && i == 1 {
					kid, text = eVar("a"), "a"
				}
				kids, texts = append(kids, kid), append(texts, text)
			}
			s := name + "(" + strings.Join(texts, ", ") + ")"
			if many >= counts[0] && many <= counts[1] {
				checkExp(t, s, eCall(name, kids...))
				checkExp(t, strings.ReplaceAll(s, "(", " ( "), eCall(name, kids...))
				checkExp(t, "-"+s+" "+s, eCat(eNeg(eCall(name, kids...)), eCall(name, kids...)))
				continue
			}
			checkNoProg(t, s, 1)
			checkNoProg(t, "{ }\n{ x = 1\n"+s+" }", 1) // what comes out is no program
			if impl.ProgOk(inRule(eCall(name, kids...))) {
				t.Error(s)
			}
		}
		for _, s := range []string{name, name + "(", name + "(x", name + "(x, y", name + "(,)", name + "(x,)", name + "(, x)", name + "(x y, )", name + " x", name + "[1]", name + "[x] = 1", name + " = 1", name + "++", "++" + name, "$" + name, "x " + name, "x in " + name, name + " in a", "(" + name + ")", "(" + name + ")(x)", name + "(x;y)", name + "(x\n, y)", name + "()()" + name} {
			checkNoExp(t, s)
		}
		for _, s := range []string{"delete " + name + "[1]", "for (" + name + " in a) x", "for (x in " + name + ") x"} {
			checkNoProg(t, "{\n"+s+"\n}", 2)
		}
	}
}

func TestParseCallsOfNamesAndPlaces(t *testing.T) {
	x, y, one := eVar("x"), eVar("y"), eNum(1)
	cases := map[string]impl.Node{
		"split(x, a)": eCall("split", x, eVar("a")), "split(x, (a))": eCall("split", x, eVar("a")), "split(x, ((a)), /,/)": eCall("split", x, eVar("a"), eRe(",")), `split("a b", a, " ")`: eCall("split", eStr("a b"), eVar("a"), eStr(" ")), "split(a[1], a)": eCall("split", eIndex("a", one), eVar("a")), "split(x in a, a, a[1])": eCall("split", eIn(x, "a"), eVar("a"), eIndex("a", one)),
		"sub(x, y)": eCall("sub", x, y), "sub(/x/, y, x)": eCall("sub", eRe("x"), y, x), "gsub(/x/, y, $1)": eCall("gsub", eRe("x"), y, eField(one)), "gsub(/x/, y, a[1])": eCall("gsub", eRe("x"), y, eIndex("a", one)), "gsub(/x/, y, (($x)))": eCall("gsub", eRe("x"), y, eField(x)), "sub(x, y, NF)": eCall("sub", x, y, eVar("NF")), "sub(x = 1, y = x, x)": eCall("sub", eSet("=", x, one), eSet("=", y, x), x),
		"length()": eCall("length"), "length ( )": eCall("length"), "length(x = y)": eCall("length", eSet("=", x, y)), "match(x, /y/)": eCall("match", x, eRe("y")), "index(length(), length(x))": eCall("index", eCall("length"), eCall("length", x)), `sprintf("%d", x > y)`: eCall("sprintf", eStr("%d"), eCmp(">", x, y)), "substr(x y, 1, 1 ? 1 : 1)": eCall("substr", eCat(x, y), one, eCond(one, one, one)), "int(x in a)": eCall("int", eIn(x, "a")), "tolower(toupper(x))": eCall("tolower", eCall("toupper", x)),
	}
	for s, e := range cases {
		checkExp(t, s, e)
	}
	for _, other := range []string{"1", `"a"`, "/a/", "$1", "a[1]", "-a", "a + 1", "a b", "a = 1", "a++", "++a", "length(a)", "x in a", "a ? a : a"} {
		checkNoProg(t, "{ }\nsplit(x, "+other+")", 1)
		checkNoProg(t, "{ }\nsplit(x, "+other+", y)", 1)
	}
	for _, other := range []string{"1", `"a"`, "/a/", "-a", "a + 1", "a b", "a = 1", "a++", "++a", "length(a)", "x in b", "a ? a : a", "(1)"} {
		checkNoProg(t, "{ }\nsub(x, y, "+other+")", 1)
		checkNoProg(t, "{ }\ngsub(x, y, "+other+")", 1)
	}
}

func TestParsePrint(t *testing.T) {
	x, y := eVar("x"), eVar("y")
	cases := map[string]impl.Node{
		"print": sPrint(), "print x": sPrint(x), "print x, y": sPrint(x, y), "print x y, y": sPrint(eCat(x, y), y), "print (x), (y)": sPrint(x, y), "print (x)": sPrint(x), "print (x) (y)": sPrint(eCat(x, y)), "print(x)y": sPrint(eCat(x, y)), "print x > y": sPrint(eCmp(">", x, y)), "print x = y, y": sPrint(eSet("=", x, y), y), "print -x": sPrint(eNeg(x)), "print /a/": sPrint(eRe("a")), "print \"\"": sPrint(eStr("")), "print x in a, y": sPrint(eIn(x, "a"), y), "print x ? y : x, y": sPrint(eCond(x, y, x), y), "print $0": sPrint(eField(eNum(0))), "print length()": sPrint(eCall("length")),
		"printf x": sPrintf(x), "printf x, y": sPrintf(x, y), `printf "%s\n", x`: sPrintf(eStr("%s\n"), x), "printf(x)": sPrintf(x), "printf (x) y, x": sPrintf(eCat(x, y), x),
	}
	for _, word := range []string{"print", "printf"} {
		for many := 1; many < 12; many++ {
			s := "{ x = 1\n" + word + " " + strings.Repeat("x, ", many-1) + "x }"
			list := eNode(map[string]int{"print": impl.SPrint, "printf": impl.SPrintf}[word], "", slices.Repeat([]impl.Node{x}, many)...)
			if many > 8 {
				checkNoProg(t, s, 1)
				continue
			}
			checkProg(t, s, inBlock(sExp(eSet("=", x, eNum(1))), list)...)
		}
	}
	for s, n := range cases {
		checkProg(t, "{ "+s+" }", inBlock(n)...)
		checkProg(t, "{"+s+"}", inBlock(n)...)
		checkProg(t, "{\n"+s+"\n}", inBlock(n)...)
		checkProg(t, "BEGIN { "+s+";"+s+" }", rBegin(n, n))
		checkProg(t, "{ if (x) "+s+"; else "+s+" }", inBlock(sIf(x, sBlock(n), sBlock(n)))...)
	}
	for _, s := range []string{"printf", "print ,", "print x,", "print , x", "print x,, y", "print (x, y)", "printf(x, y)", "printf ,", "printf x,", "printf print", "print print", "print x print y", "print next", "print if", "printf ;", "print {", "print x { }", "print >", "print )", "print x )"} {
		checkNoProg(t, "{ }\n{ "+s+"\n\n }", 2)
		checkNoProg(t, "{ }\n{ "+s+" }\n", 2)
		checkNoProg(t, "{ }\n{ if (x) "+s+" }\n", 2)
	}
	checkNoProg(t, "{ print x,\ny }", 1)
	checkNoProg(t, "{\nprint\n, x }", 3)
	checkNoProg(t, "{ printf\nx }", 1)
}

func TestParseStatements(t *testing.T) {
	x, y, z, one := eVar("x"), eVar("y"), eVar("z"), eNum(1)
	cases := map[string][]impl.Node{
		"": {}, ";": {}, "\n;\n;;": {}, "x": {sExp(x)}, "x;": {sExp(x)}, ";x": {sExp(x)}, "\n\nx\n\n": {sExp(x)}, "x;y": {sExp(x), sExp(y)}, "x\ny": {sExp(x), sExp(y)}, "x;\n;y;;": {sExp(x), sExp(y)}, "x # y\nz": {sExp(x), sExp(z)}, "/a/": {sExp(eRe("a"))}, "x\n/a/": {sExp(x), sExp(eRe("a"))}, "1; \"a\"; -x": {sExp(one), sExp(eStr("a")), sExp(eNeg(x))}, "x\n-y": {sExp(x), sExp(eNeg(y))}, "x;++y": {sExp(x), sExp(ePre("++", y))},
		"next": {sNext()}, "exit": {sExit()}, "next;next\nexit;": {sNext(), sNext(), sExit()},
		"delete a[1]": {sDel("a", one)}, "delete a [ x ] ;": {sDel("a", x)}, "delete a[a[1]]; x": {sDel("a", eIndex("a", one)), sExp(x)}, "delete a[x in a]": {sDel("a", eIn(x, "a"))}, "delete a[x = 1]": {sDel("a", eSet("=", x, one))},
		"{}": {sBlock()}, "{ }": {sBlock()}, "{ ; }": {sBlock()}, "{{}}": {sBlock(sBlock())}, "{ x }": {sBlock(sExp(x))}, "{ x } y": {sBlock(sExp(x)), sExp(y)}, "x; { y }; z": {sExp(x), sBlock(sExp(y)), sExp(z)}, "{ x } { y }": {sBlock(sExp(x)), sBlock(sExp(y))}, "{ x }\n\n{ y; }": {sBlock(sExp(x)), sBlock(sExp(y))}, "{ x } ;": {sBlock(sExp(x))},
		"if (x) y": {sIf(x, sBlock(sExp(y)))}, "if(x)y": {sIf(x, sBlock(sExp(y)))}, "if (x) y; z": {sIf(x, sBlock(sExp(y))), sExp(z)}, "if (x) { y }": {sIf(x, sBlock(sExp(y)))}, "if (x) { y } z": {sIf(x, sBlock(sExp(y))), sExp(z)}, "if (x) { }": {sIf(x, sBlock())}, "if (x) { y; z }": {sIf(x, sBlock(sExp(y), sExp(z)))}, "if (x) {{ y }}": {sIf(x, sBlock(sBlock(sExp(y))))}, "if (x)\ny": {sIf(x, sBlock(sExp(y)))}, "if (x) ; \n; y": {sIf(x, sBlock(sExp(y)))}, "if (x)\n\n{ y }\n\nz": {sIf(x, sBlock(sExp(y))), sExp(z)}, "if ((x)) y": {sIf(x, sBlock(sExp(y)))}, "if (x = y) z": {sIf(eSet("=", x, y), sBlock(sExp(z)))}, "if (x in a) y": {sIf(eIn(x, "a"), sBlock(sExp(y)))}, "if (x) (/a/)": {sIf(x, sBlock(sExp(eRe("a"))))}, "if (x); /a/": {sIf(x, sBlock(sExp(eRe("a"))))}, "if (x) !/a/": {sIf(x, sBlock(sExp(eNot(eRe("a")))))}, "if (x) y z": {sIf(x, sBlock(sExp(eCat(y, z))))},
		"while (x) y": {sWhile(x, sBlock(sExp(y)))}, "while(x)y;z": {sWhile(x, sBlock(sExp(y))), sExp(z)}, "while (x) { }": {sWhile(x, sBlock())}, "while (x) { y } z": {sWhile(x, sBlock(sExp(y))), sExp(z)}, "while (x)\n\n;y\n": {sWhile(x, sBlock(sExp(y)))}, "while (x) while (y) z": {sWhile(x, sBlock(sWhile(y, sBlock(sExp(z)))))}, "while (x) if (y) z; else x": {sWhile(x, sBlock(sIf(y, sBlock(sExp(z)), sBlock(sExp(x)))))}, "while (x) next": {sWhile(x, sBlock(sNext()))},
		"for (x in a) y": {sFor("x", "a", sBlock(sExp(y)))}, "for(x in a)y": {sFor("x", "a", sBlock(sExp(y)))}, "for (x in a) { y } z": {sFor("x", "a", sBlock(sExp(y))), sExp(z)}, "for (x in a)\n;\ny": {sFor("x", "a", sBlock(sExp(y)))}, "for (x in a) for (y in b) z": {sFor("x", "a", sBlock(sFor("y", "b", sBlock(sExp(z)))))}, "for (x in a) delete a[x]": {sFor("x", "a", sBlock(sDel("a", x)))}, "for (NR in a) { }": {sFor("NR", "a", sBlock())}, "for (x in a) if (x in a) y": {sFor("x", "a", sBlock(sIf(eIn(x, "a"), sBlock(sExp(y)))))},
	}
	for s, list := range cases {
		for _, layout := range []string{"{%}", "{ % }", "{\n%\n}", "{;%;}", "\n{ % };"} {
			checkProg(t, strings.ReplaceAll(layout, "%", s), inBlock(list...)...)
		}
		checkProg(t, "BEGIN {"+s+"} END { "+s+" }", rBegin(list...), rEnd(list...))
		checkProg(t, "{ while (x) {"+s+"} }", inBlock(sWhile(x, sBlock(list...)))...)
	}
}

func TestParseElse(t *testing.T) {
	x, y, z, w := eVar("x"), eVar("y"), eVar("z"), eVar("w")
	both := sIf(x, sBlock(sExp(y)), sBlock(sExp(z)))
	for _, s := range []string{
		"if (x) y; else z", "if (x) y\nelse z", "if (x) y\n\n\nelse z", "if (x) y;\n;else z", "if (x) y ; ; ; else z", "if (x)\ny\nelse\nz", "if (x) y; else\n\n;z", "if (x)\n\n;y\n;;\nelse;z", "if (x) y # else\nelse # z\nz",
		"if (x) { y } else z", "if (x) { y }\nelse z", "if (x) { y };\n;\nelse z", "if (x){y}else{z}", "if (x) { y } else { z }", "if (x) { y; } else { ; z }", "if (x)\n{ y\n}\nelse\n{\nz }", "if (x) y; else { z }", "if (x) y\nelse\n{ z }",
	} {
		checkProg(t, "{ "+s+" }", inBlock(both)...)
		checkProg(t, "{"+s+";}", inBlock(both)...)
		checkProg(t, "{ "+s+"\n"+s+"\n}", inBlock(both, both)...)
		checkProg(t, "{ "+s+"; w }", inBlock(both, sExp(w))...)
	}
	cases := map[string][]impl.Node{
		"if (x) if (y) z; else w":                 {sIf(x, sBlock(sIf(y, sBlock(sExp(z)), sBlock(sExp(w)))))},
		"if (x) { if (y) z } else w":              {sIf(x, sBlock(sIf(y, sBlock(sExp(z)))), sBlock(sExp(w)))},
		"if (x) if (y) z; else w\nelse x":         {sIf(x, sBlock(sIf(y, sBlock(sExp(z)), sBlock(sExp(w)))), sBlock(sExp(x)))},
		"if (x) y; else if (z) w; else x":         {sIf(x, sBlock(sExp(y)), sBlock(sIf(z, sBlock(sExp(w)), sBlock(sExp(x)))))},
		"if (x) { y } else if (z) { w } else { }": {sIf(x, sBlock(sExp(y)), sBlock(sIf(z, sBlock(sExp(w)), sBlock())))},
		"if (x) while (y) z; else w":              {sIf(x, sBlock(sWhile(y, sBlock(sExp(z)))), sBlock(sExp(w)))},
		"if (x) for (y in a) z\nelse w":           {sIf(x, sBlock(sFor("y", "a", sBlock(sExp(z)))), sBlock(sExp(w)))},
		"if (x) while (y) if (z) w; else x":       {sIf(x, sBlock(sWhile(y, sBlock(sIf(z, sBlock(sExp(w)), sBlock(sExp(x)))))))},
		"if (x) while (y) { z } else w":           {sIf(x, sBlock(sWhile(y, sBlock(sExp(z)))), sBlock(sExp(w)))},
		"if (x) print; else print":                {sIf(x, sBlock(sPrint()), sBlock(sPrint()))},
		"if (x) next; else exit":                  {sIf(x, sBlock(sNext()), sBlock(sExit()))},
		"if (x) { y }; z":                         {sIf(x, sBlock(sExp(y))), sExp(z)},
		"if (x) y; else z; w":                     {sIf(x, sBlock(sExp(y)), sBlock(sExp(z))), sExp(w)},
		"if (x) y; else { z } w":                  {sIf(x, sBlock(sExp(y)), sBlock(sExp(z))), sExp(w)},
	}
	for s, list := range cases {
		checkProg(t, "{ "+s+" }", inBlock(list...)...)
		checkProg(t, "{\n"+s+"\n}", inBlock(list...)...)
	}
	lines := map[string]int{
		"{ if (x) y else z }": 1, "{ if (x) y\n z\n\nelse w }": 4, "{ if (x) { y } z; else w }": 1, "{ if (x) { y } }\nelse z": 2, "{\nelse z }": 2, "{ x\nelse y }": 2, "{ if (x)\nelse y }": 2, "{ if (x) y; else z; else\nw }": 1, "{ if (x) y\nelse z\nelse w }": 3, "{ while (x) y\nelse z }": 2, "{ for (x in a) y;\n\nelse z }": 3, "{ if (x) { y\nelse z } }": 2, "{ if (x) y; else }": 1, "{ if (x) y; else\n\n}": 3, "{ if (x) y; else ;\n; }": 2, "else": 1, "{ }\nelse { }": 2, "{ if (x) (y) else z }": 1, "{ if (x) y++ else\nz }": 1, "{ if (x) { } else\n": 1, "{ if (x) print else z }": 1, "{ if (x) next else z }": 1, "{ if (x) delete a[1] else z }": 1,
	}
	for s, line := range lines {
		checkNoProg(t, s, line)
	}
}

// The line is that of the first word that does not fit, or of the last one.
func TestParseTellsTheLine(t *testing.T) {
	cases := map[string]int{
		// no word, or none but ends
		"": 1, " ": 1, "\t": 1, "# x": 1, "#": 1, "\n": 1, "\n\n\n": 1, ";;\n;": 1, "# a\n# b\n": 1,
		// a byte that begins no word, ahead of all else
		"@": 1, "x\n@": 2, "}\n\n@": 3, "{\n\n\"a": 3, "a[1] = a\n&": 2, "x\n1000001": 2, "x\ny\nabcdefghijklmnopqrstu": 3,
		// words that are lacking
		"{": 1, "\n{": 2, "{\n": 1, "{ x\n\n": 2, "{\n\nprint": 3, "{ x ; # y": 1, "BEGIN": 1, "\nEND": 2, "x ==": 1, "\n\nx ==": 3, "{ if (x)": 1, "{ if (x)\n\n": 2, "{ if (x) y\n\nelse\n": 3, "{ {\n{ }\n}": 3, "{\nx = (1 +": 2, "x ?": 1, "{\nwhile": 2, "{\nfor (x in": 2, "{\n\ndelete": 3, "length": 1, "\nlength(": 2, "{\nprintf": 2, "\n$": 2, "{\n}\n{\n": 3,
		// words that do not fit
		"}": 1, "\n}": 2, "x\n}": 2, "{ }\n}": 2, "{ } }": 1, "x }": 1, "x\ny }\nz": 2, "x ]": 1, "\nx )": 2, "BEGIN\n{ }": 1, "\nBEGIN ; { }": 2, "BEGIN x { }": 1, "END\n": 1, "BEGIN BEGIN { }": 1, "BEGIN { } { } END x": 1, "x BEGIN { }": 1, "x\nBEGIN": 2, "x { }\n\ny END { }": 3, "{ BEGIN { } }": 1, "{\n\nEND { } }": 3, "in": 1, "print": 1, "x\nprint x": 2, "if (x) y": 1, "\nnext": 2, "delete a[1]": 1, "x, y": 1, "\n1 = 2": 2, "x = \n1": 1, "x +\ny": 1, "(x\n)": 1, "x ? y\n: z": 1, "x &&\ny": 1, "{ x +\ny }": 1, "{ f(\nx) }": 1, "{ length(\nx) }": 1, "{ a[\n1] }": 1, "{ print x,\ny }": 1, "{ if\n(x) y }": 1, "{ if (\nx) y }": 1, "{ if (x\n) y }": 1, "{ while\n(x) y }": 1, "{ for\n(x in a) y }": 1, "{ for (x\nin a) y }": 1, "{ delete\na[1] }": 1, "{ x\n= 1 }": 2, "{ x\n++ }": 2, "{ x\n\n* y }": 3, "{ x ++\n++ }": 2, "{ x\n++\ny }": 2, "x\n~ y": 2, "x ;\n, y": 2,
		"{ if x y }": 1, "{\nif () y }": 2, "{ if (x, y) z }": 1, "{ if (x) }": 1, "{ if (x)\n\n}": 3, "{ if (x) ;\n}": 2, "{ if (x) y { z } }": 1, "{\nif (x) /a/ }": 2, "{ while (x)\n}": 2, "{ while () x }": 1, "{ while (x) }": 1, "{ while x y }": 1, "{ while }": 1,
		"{ for (x in a) }": 1, "{ for (x in a)\n;}": 2, "{ for (x) y }": 1, "{ for (1 in a) x }": 1, "{ for (x in 1) y }": 1, "{ for (x in (a)) y }": 1, "{ for ((x in a)) y }": 1, "{ for ((x) in a) y }": 1, "{ for (x in a in b) y }": 1, "{ for (x = 1; x < 2; x++) y }": 1, "{ for (;;) y }": 1, "{ for x in a y }": 1, "{ for ($1 in a) x }": 1, "{ for (a[1] in a) x }": 1, "{ for (x in a[1]) y }": 1, "{ for (in in a) y }": 1, "{ for (x in in) y }": 1, "{ for (if in a) y }": 1,
		"{ delete }": 1, "{ delete a }": 1, "{ delete (a[1]) }": 1, "{ delete a[] }": 1, "{ delete a[1][2] }": 1, "{ delete a[1], b[1] }": 1, "{ delete 1 }": 1, "{ delete $1 }": 1, "{ delete if[1] }": 1, "{ delete a[1] b }": 1, "{ delete a(1) }": 1, "{ delete [1] }": 1,
		"{ next 1 }": 1, "{ exit 1 }": 1, "{ next next }": 1, "{ next, next }": 1, "{ exit { } }": 1, "{ x { y } }": 1, "{ x; { y }": 1, "{ x y\n{ z }": 2, "{ x, y }": 1, "{ , }": 1, "{ ) }": 1, "{ { } , }": 1, "{ else }": 1, "{ in }": 1, "{ x if (y) z }": 1,
		// what is no program comes out
		"{ }\n{ a[1] = a }": 1, "\n\nNF[1]": 1, "\n/(/": 1, "\nlength(1, 2)": 1, "\n" + strings.Repeat("- ", 31) + "x": 1, "\n" + strings.Repeat("{ }\n", 21): 1,
	}
	for s, line := range cases {
		checkNoProg(t, s, line)
	}
}

func TestParseRules(t *testing.T) {
	x, y := eVar("x"), eVar("y")
	shown := rPat(x, sPrint())
	cases := map[string][]impl.Rule{
		"x": {shown}, "x\n": {shown}, "\n;x;;\n": {shown}, "x # y": {shown}, "x\ny": {shown, rPat(y, sPrint())}, "x;y": {shown, rPat(y, sPrint())}, "x;\n\n;y;": {shown, rPat(y, sPrint())}, "x { print }": {shown}, "x {print}": {shown}, "x{ print; }": {shown}, "x { }": {rPat(x)}, "x { y }": {rPat(x, sExp(y))}, "x\n{ y }": {shown, rAll(sExp(y))}, "x;{ y }": {shown, rAll(sExp(y))}, "x y { }": {rPat(eCat(x, y))}, "x (y) { }": {rPat(eCat(x, y))}, "x = y { }": {rPat(eSet("=", x, y))},
		"{ }": {rAll()}, "{}": {rAll()}, "{ }{ }": {rAll(), rAll()}, "{ } { } { }": {rAll(), rAll(), rAll()}, "{ };{ }\n{ }": {rAll(), rAll(), rAll()}, "{ } x": {rAll(), shown}, "{ }x{ }y": {rAll(), rPat(x), rPat(y, sPrint())}, "{ } x { y } y { x }": {rAll(), rPat(x, sExp(y)), rPat(y, sExp(x))}, "{ } /x/": {rAll(), rPat(eRe("x"), sPrint())}, "{ } (x)": {rAll(), shown}, "{ } -x": {rAll(), rPat(eNeg(x), sPrint())}, "{ } ++x": {rAll(), rPat(ePre("++", x), sPrint())}, "{ } $1": {rAll(), rPat(eField(eNum(1)), sPrint())},
		"BEGIN { }": {rBegin()}, "BEGIN{}": {rBegin()}, "END { }": {rEnd()}, "END { } BEGIN { }": {rEnd(), rBegin()}, "BEGIN { } BEGIN { } END { }END{ }": {rBegin(), rBegin(), rEnd(), rEnd()}, "BEGIN { x } y": {rBegin(sExp(x)), rPat(y, sPrint())}, "x;END { }": {shown, rEnd()}, "x\n\nEND { y }": {shown, rEnd(sExp(y))}, "BEGIN {\n}\n\nx\nEND {\n}\n": {rBegin(), shown, rEnd()}, "{ } END { } x { } BEGIN { } { }": {rAll(), rEnd(), rPat(x), rBegin(), rAll()},
		"/x/": {rPat(eRe("x"), sPrint())}, "/x/\n/y/": {rPat(eRe("x"), sPrint()), rPat(eRe("y"), sPrint())}, "!/x/ { y }": {rPat(eNot(eRe("x")), sExp(y))}, "$1 > 5": {rPat(eCmp(">", eField(eNum(1)), eNum(5)), sPrint())}, "0": {rPat(eNum(0), sPrint())}, "1 { }": {rPat(eNum(1))}, `"x" { }`: {rPat(eStr("x"))}, "x in a": {rPat(eIn(x, "a"), sPrint())}, "x in a { }": {rPat(eIn(x, "a"))}, "length() > 1 { }": {rPat(eCmp(">", eCall("length"), eNum(1)))},
	}
	for s, p := range cases {
		checkProg(t, s, p...)
		checkProg(t, "\n; "+s+"\n;\n", p...)
		checkProg(t, "BEGIN { }"+s, append([]impl.Rule{rBegin()}, p...)...)
	}
}

// bigBody tells a body of so many nodes, with no more than 20 kids anywhere.
func bigBody(many int) impl.Node {
	body := sBlock()
	many--
	for many > 0 {
		part := sBlock()
		many--
		for many > 0 && len(part.Kids) < 20 {
			part.Kids = append(part.Kids, sNext())
			many--
		}
		body.Kids = append(body.Kids, part)
	}
	return body
}

func countNodes(n impl.Node) int {
	many := 1
	for _, kid := range n.Kids {
		many += countNodes(kid)
	}
	return many
}

func deepNode(n impl.Node, times int, wrap func(impl.Node) impl.Node) impl.Node {
	for range times {
		n = wrap(n)
	}
	return n
}

func TestLimitsOfPrograms(t *testing.T) {
	x := eVar("x")
	good := map[string][]impl.Rule{
		"20 rules": slices.Repeat([]impl.Rule{rPat(x)}, 20), "20 kids": inBlock(slices.Repeat([]impl.Node{sNext()}, 20)...), "400 nodes": {{Body: bigBody(400)}}, "two of 200": {{Body: bigBody(200)}, {Body: bigBody(200)}}, "400 with a pattern": {{When: impl.WPat, Pat: eNeg(x), Body: bigBody(398)}}, "a pattern 30 deep": inRule(deepNode(x, 30, eNeg)), "a body 30 deep": {rAll(sExp(deepNode(x, 28, eNot)))}, "blocks 30 deep": {{Body: deepNode(sBlock(), 30, func(n impl.Node) impl.Node { return sBlock(n) })}}, "20 in a block of a block": inBlock(sBlock(slices.Repeat([]impl.Node{sExit()}, 20)...)),
		"20 rules of 20 nodes": slices.Repeat([]impl.Rule{{When: impl.WEnd, Body: bigBody(20)}}, 20), "no pattern counts for no rule": {rBegin(), rEnd(), {Body: bigBody(398)}},
		"30 deep to the right": inRule(deepNode(x, 30, func(n impl.Node) impl.Node { return eSet("=", x, n) })), "30 deep to the left": inRule(deepNode(x, 30, func(n impl.Node) impl.Node { return eOp("+", n, x) })),
	}
	bad := map[string][]impl.Rule{
		"none": {}, "21 rules": slices.Repeat([]impl.Rule{rPat(x)}, 21), "21 kids": inBlock(slices.Repeat([]impl.Node{sNext()}, 21)...), "401 nodes": {{Body: bigBody(401)}}, "200 and 201": {{Body: bigBody(200)}, {Body: bigBody(201)}}, "401 with a pattern": {{When: impl.WPat, Pat: eNeg(x), Body: bigBody(399)}}, "a pattern 31 deep": inRule(deepNode(x, 31, eNeg)), "a body 31 deep": {rAll(sExp(deepNode(x, 29, eNot)))}, "blocks 31 deep": {{Body: deepNode(sBlock(), 31, func(n impl.Node) impl.Node { return sBlock(n) })}}, "21 in a block of a block": inBlock(sBlock(slices.Repeat([]impl.Node{sExit()}, 21)...)),
		"400 and then one": {{Body: bigBody(400)}, rAll()}, "100000 rules": slices.Repeat([]impl.Rule{rAll()}, 100000), "100000 kids": inBlock(slices.Repeat([]impl.Node{sNext()}, 100000)...), "100000 deep": inRule(deepNode(x, 100000, eNeg)), "100000 deep blocks": {{Body: deepNode(sBlock(), 100000, func(n impl.Node) impl.Node { return sBlock(n) })}},
		"31 deep to the right": inRule(deepNode(x, 31, func(n impl.Node) impl.Node { return eSet("=", x, n) })), "31 deep to the left": inRule(deepNode(x, 31, func(n impl.Node) impl.Node { return eOp("+", n, x) })),
	}
	for name, p := range good {
		if !impl.ProgOk(p) {
			t.Error(name)
			continue
		}
		checkProgComesBack(t, p)
	}
	for name, p := range bad {
		if impl.ProgOk(p) || impl.ShowProg(p) != "" {
			t.Error(name)
		}
		if len(p) < 50 && name != "100000 kids" && !strings.HasPrefix(name, "100000 deep") {
			checkNoProg(t, "\n"+wantedShow(p), 1)
		}
	}
	if countNodes(bigBody(400)) != 400 || countNodes(bigBody(21)) != 21 {
		t.Error("big bodies")
	}
}

func TestParseLimits(t *testing.T) {
	x := eVar("x")
	checkProg(t, strings.Repeat("x\n", 20), slices.Repeat(inRule(x), 20)...)
	checkNoProg(t, strings.Repeat("x\n", 21), 1)
	checkProg(t, strings.Repeat("{}", 20), slices.Repeat([]impl.Rule{rAll()}, 20)...)
	checkNoProg(t, strings.Repeat("{}", 21), 1)
	checkProg(t, "{"+strings.Repeat("x;", 20)+"}", inBlock(slices.Repeat([]impl.Node{sExp(x)}, 20)...)...)
	checkNoProg(t, "{"+strings.Repeat("x;", 21)+"}", 1)
	checkProg(t, strings.Repeat("- ", 30)+"x", inRule(deepNode(x, 30, eNeg))...)
	checkNoProg(t, strings.Repeat("- ", 31)+"x", 1)
	checkProg(t, strings.Repeat("$", 30)+"x", inRule(deepNode(x, 30, eField))...)
	checkNoProg(t, strings.Repeat("$", 31)+"x", 1)
	checkProg(t, strings.Repeat("x=", 30)+"x", inRule(deepNode(x, 30, func(n impl.Node) impl.Node { return eSet("=", x, n) }))...)
	checkNoProg(t, strings.Repeat("x=", 31)+"x", 1)
	checkProg(t, "x"+strings.Repeat(" x", 30), inRule(deepNode(x, 30, func(n impl.Node) impl.Node { return eCat(n, x) }))...)
	checkNoProg(t, "x"+strings.Repeat(" x", 31), 1)
	// Round brackets are no nodes: as many may be open as the text has room for.
	for _, many := range []int{1, 30, 31, 500, 1999} {
		checkProg(t, strings.Repeat("(", many)+"xy"+strings.Repeat(")", many), inRule(eVar("xy"))...)
		checkNoProg(t, strings.Repeat("(", many)+"xy"+strings.Repeat(")", many-1), 1)
	}
}

func TestParseTextsOfMaxText(t *testing.T) {
	x := eVar("x")
	most := impl.MaxText
	long := map[string][]impl.Rule{
		"x" + strings.Repeat("\n", most-1): inRule(x), strings.Repeat(";", most-1) + "x": inRule(x), strings.Repeat(" ", most-1) + "x": inRule(x), "x#" + strings.Repeat("a", most-2): inRule(x),
		`"` + strings.Repeat("a", most-2) + `"`:                              inRule(eStr(strings.Repeat("a", most-2))),
		"/[" + strings.Repeat("a", most-4) + "]/":                            inRule(eRe("[" + strings.Repeat("a", most-4) + "]")),
		strings.Repeat("(", most/2-1) + "xy" + strings.Repeat(")", most/2-1): inRule(eVar("xy")),
		"{" + strings.Repeat("\n", most-3) + "x}":                            inBlock(sExp(x)),
	}
	for s, p := range long {
		if len(s) != most {
			t.Errorf("%.20q: %d bytes", s, len(s))
		}
		if got, line := impl.Parse(s); line != 0 || !sameRules(got, p) {
			t.Errorf("%.20q: %d", s, line)
		}
		checkNoProg(t, s+" ", 1)
		checkNoProg(t, s+"\n", 1)
		checkNoProg(t, "\n\n"+s, 1)
	}
	for n := range 256 {
		for _, size := range []int{most, most + 1} {
			s := strings.Repeat(string([]byte{byte(n)}), size)
			checkNoProg(t, s, 1)
		}
	}
	for _, unit := range []string{"(", "x ", "x\n", "x;", "- ", "! ", "$", "++", "{", "{}", "x=", "x+", "x?", "x^", "x~", "a[", "length(", "if(x)", "x in ", "print\n", "f(", "!", "x,", "x<", "BEGIN{}", "{x}", "x ? y : ", "while(x)", "/a/\n", "if(x){}else "} {
		for _, head := range []string{"", "{", "{ print "} {
			s := head + strings.Repeat(unit, (most-len(head))/len(unit))
			if p, line := impl.Parse(s); line < 1 || len(p) != 0 {
				t.Errorf("%q and %q many times: %d", head, unit, line)
			}
		}
	}
}

// maker makes programs at random, of so many nodes at most; arrays have names
// that nothing else has.
type maker struct {
	from *rand.Rand
	left int
}

func (m *maker) pick(list ...string) string { return list[m.from.Intn(len(list))] }

func (m *maker) array() string { return m.pick("A", "Bb", "c_1") }

func (m *maker) variable() string { return m.pick("x", "y", "z9", "NF", "NR", "OFS", "RSTART") }

func (m *maker) place(deep int) impl.Node {
	m.left--
	switch kind := m.from.Intn(4); {
	case kind == 0 && deep > 0:
		return eIndex(m.array(), m.exp(deep-1))
	case kind == 1 && deep > 0:
		return eField(m.exp(deep - 1))
	}
	return eVar(m.variable())
}

func (m *maker) leaf() impl.Node {
	switch m.from.Intn(5) {
	case 0:
		return impl.Node{Kind: impl.ENum, N: []int{0, 1, 500000, impl.One, 12345678, impl.MaxNum}[m.from.Intn(6)]}
	case 1:
		return eStr(m.pick("", "a", "a b", "\n\t\"\\", "\x00\xff", "/#", "%d\n"))
	case 2:
		return eRe(m.pick("", "a", "a|b+", `\/`, "[a-z]*", "=", " #\"", "^$", "x{2}"))
	}
	return eVar(m.variable())
}

func (m *maker) exps(many int, deep int) []impl.Node {
	list := []impl.Node{}
	for range many {
		list = append(list, m.exp(deep))
	}
	return list
}

func (m *maker) exp(deep int) impl.Node {
	m.left--
	if deep <= 0 || m.left <= 0 {
		return m.leaf()
	}
	deep--
	switch kind := m.from.Intn(18); kind {
	case 0:
		return eSet(m.pick("=", "+=", "-=", "*=", "/=", "%="), m.place(deep), m.exp(deep))
	case 1:
		return eCond(m.exp(deep), m.exp(deep), m.exp(deep))
	case 2:
		return eOr(m.exp(deep), m.exp(deep))
	case 3:
		return eAnd(m.exp(deep), m.exp(deep))
	case 4:
		return eIn(m.exp(deep), m.array())
	case 5:
		return eMatch(m.pick("~", "!~"), m.exp(deep), m.exp(deep))
	case 6:
		return eCmp(m.pick("<", "<=", "==", "!=", ">", ">="), m.exp(deep), m.exp(deep))
	case 7, 8:
		return eCat(m.exp(deep), m.exp(deep))
	case 9, 10:
		return eOp(m.pick("+", "-", "*", "/", "%", "^", "^"), m.exp(deep), m.exp(deep))
	case 11:
		return eNot(m.exp(deep))
	case 12:
		return eNeg(m.exp(deep))
	case 13:
		return ePre(m.pick("++", "--"), m.place(deep))
	case 14:
		return ePost(m.pick("++", "--"), m.place(deep))
	case 15:
		return m.call(deep)
	case 16:
		return m.place(deep + 1)
	}
	return m.leaf()
}

func (m *maker) call(deep int) impl.Node {
	names := slices.Sorted(maps.Keys(callCounts()))
	name := names[m.from.Intn(len(names))]
	counts := callCounts()[name]
	kids := m.exps(counts[0]+m.from.Intn(counts[1]-counts[0]+1), deep)
	switch {
	case name == "split":
		kids[1] = eVar(m.array())
	case strings.HasSuffix(name, "sub") && len(kids) == 3:
		kids[2] = m.place(deep)
	}
	return eCall(name, kids...)
}

func (m *maker) block(deep int) impl.Node {
	m.left--
	body := sBlock()
	for range m.from.Intn(4) {
		if m.left > 0 {
			body.Kids = append(body.Kids, m.statement(deep))
		}
	}
	return body
}

func (m *maker) statement(deep int) impl.Node {
	m.left--
	kind := m.from.Intn(11)
	if deep <= 0 {
		kind = m.from.Intn(6)
	}
	deep--
	switch kind {
	case 0:
		return sPrint(m.exps(m.from.Intn(9), 1)...)
	case 1:
		return sPrintf(m.exps(1+m.from.Intn(8), 1)...)
	case 2:
		return sNext()
	case 3:
		return sExit()
	case 4:
		return sDel(m.array(), m.exp(2))
	case 6, 7:
		kids := []impl.Node{m.exp(2), m.block(deep)}
		if m.from.Intn(2) == 0 {
			kids = append(kids, m.block(deep))
		}
		return sIf(kids...)
	case 8:
		return sWhile(m.exp(2), m.block(deep))
	case 9:
		return sFor(m.variable(), m.array(), m.block(deep))
	case 10:
		return m.block(deep)
	}
	return sExp(m.exp(3))
}

func (m *maker) program() []impl.Rule {
	p := []impl.Rule{}
	for range 1 + m.from.Intn(4) {
		rule := impl.Rule{When: m.from.Intn(4)}
		if rule.When == impl.WPat {
			rule.Pat = m.exp(3)
		}
		rule.Body = m.block(3)
		if rule.When == impl.WPat && m.from.Intn(3) == 0 {
			rule.Body = sBlock(sPrint())
		}
		p = append(p, rule)
	}
	return p
}

func madePrograms(seed int64, many int) [][]impl.Rule {
	from := rand.New(rand.NewSource(seed))
	list := [][]impl.Rule{}
	for range many {
		m := maker{from, 90}
		list = append(list, m.program())
	}
	return list
}

// Promise 6, for programs that are put together here.
func TestMadeProgramsComeBack(t *testing.T) {
	t.Parallel()
	for _, p := range madePrograms(1, 6000) {
		checkProgComesBack(t, p)
	}
}

// kindsWithin tells an expression of each kind.
func kindsWithin() []impl.Node {
	x, y, z := eVar("x"), eVar("y"), eVar("z")
	return []impl.Node{eNum(1), {Kind: impl.ENum, N: 1}, eStr("a b"), eStr(""), eRe("a"), eRe(""), eRe("=a"), eField(eNum(1)), x, eIndex("a", x), eSet("=", x, y), eSet("/=", eField(x), y), eCond(x, y, z), eOr(x, y), eAnd(x, y), eIn(x, "a"), eMatch("~", x, y), eMatch("!~", x, eRe("a")), eCmp("<", x, y), eCmp("==", x, y), eCat(x, y), eCat(x, eRe("b")), eOp("+", x, y), eOp("-", x, y), eOp("/", x, y), eOp("^", x, y), eNot(x), eNeg(x), ePre("++", x), ePre("--", eIndex("a", y)), ePost("++", x), ePost("--", eField(x)), eCall("length"), eCall("substr", x, y), eCall("split", x, eVar("a"))}
}

func TestShowEachKindWithinEach(t *testing.T) {
	all := kindsWithin()
	for _, outer := range all {
		checkProgComesBack(t, inRule(outer))
		for i, kid := range outer.Kids {
			for _, inner := range all {
				place := inner.Kind == impl.EVar || inner.Kind == impl.EIndex || inner.Kind == impl.EField
				if kid.Text == "a" || i == 0 && !place && slices.Contains([]int{impl.ESet, impl.EPre, impl.EPost}, outer.Kind) {
					continue
				}
				for _, deepest := range all {
					third := copyNode(inner)
					last := len(third.Kids) - 1
					changes := last >= 0 && third.Kids[last].Kind == impl.EVar && third.Kids[last].Text != "a" && third.Kind != impl.EPre && third.Kind != impl.EPost
					if changes {
						third.Kids[last] = deepest
					}
					n := copyNode(outer)
					n.Kids[i] = third
					checkProgComesBack(t, inRule(n))
					if !changes {
						break
					}
				}
			}
		}
	}
}

func TestShowProg(t *testing.T) {
	x, y := eVar("x"), eVar("y")
	cases := map[string][]impl.Rule{
		"{ }\n": {rAll()}, "BEGIN { }\nEND { }\n": {rBegin(), rEnd()}, "x { }\n": {rPat(x)}, "(x > 1) { print }\n": inRule(eCmp(">", x, eNum(1))), "/a/ { next; exit }\n": {rPat(eRe("a"), sNext(), sExit())}, "0 { }\n": {rPat(eNum(0))}, "\"\\n\" { }\n{ }\n": {rPat(eStr("\n")), rAll()},
		"{ x; (y++); (--z) }\n": inBlock(sExp(x), sExp(ePost("++", y)), sExp(ePre("--", eVar("z")))), "{ { }; { x }; { { } } }\n": inBlock(sBlock(), sBlock(sExp(x)), sBlock(sBlock())), "{ print; print x; print x, (x y), 1.5 }\n": inBlock(sPrint(), sPrint(x), sPrint(x, eCat(x, y), impl.Node{Kind: impl.ENum, N: 1500000})), "{ printf \"%d\", (-x) }\n": inBlock(sPrintf(eStr("%d"), eNeg(x))),
		"{ if (x) { } }\n": inBlock(sIf(x, sBlock())), "{ if ((x < y)) { x } else { }; y }\n": inBlock(sIf(eCmp("<", x, y), sBlock(sExp(x)), sBlock()), sExp(y)), "{ if (x) { } else { if (y) { print } else { x } } }\n": inBlock(sIf(x, sBlock(), sBlock(sIf(y, sBlock(sPrint()), sBlock(sExp(x)))))), "{ while (x) { while ((!y)) { } } }\n": inBlock(sWhile(x, sBlock(sWhile(eNot(y), sBlock())))), "{ for (x in a) { delete a[x]; delete a[(x + 1)] } }\n": inBlock(sFor("x", "a", sBlock(sDel("a", x), sDel("a", eOp("+", x, eNum(1)))))),
		"{ (x = (y /= 2)) }\n": inBlock(sExp(eSet("=", x, eSet("/=", y, eNum(2))))), "{ (x ? y : (x ? 1 : 2)) }\n": inBlock(sExp(eCond(x, y, eCond(x, eNum(1), eNum(2))))), "{ ((x || y) && (x in a)) }\n": inBlock(sExp(eAnd(eOr(x, y), eIn(x, "a")))), "{ ((x in a) in b) }\n": inBlock(sExp(eIn(eIn(x, "a"), "b"))), "{ ((x !~ /a/) ~ (x <= y)) }\n": inBlock(sExp(eMatch("~", eMatch("!~", x, eRe("a")), eCmp("<=", x, y)))), "{ (x (/a/)); (/a/ x); ((/a/ (/b/)) (/c/)) }\n": inBlock(sExp(eCat(x, eRe("a"))), sExp(eCat(eRe("a"), x)), sExp(eCat(eCat(eRe("a"), eRe("b")), eRe("c")))), "{ (x (y x)); ((x y) x) }\n": inBlock(sExp(eCat(x, eCat(y, x))), sExp(eCat(eCat(x, y), x))), "{ (x - (-y)); (x ^ (y ^ x)); (/a/ / /b/) }\n": inBlock(sExp(eOp("-", x, eNeg(y))), sExp(eOp("^", x, eOp("^", y, x))), sExp(eOp("/", eRe("a"), eRe("b")))), "{ (!(!x)); (-(-x)); (-1); (!/a/) }\n": inBlock(sExp(eNot(eNot(x))), sExp(eNeg(eNeg(x))), sExp(eNeg(eNum(1))), sExp(eNot(eRe("a")))), "{ (++$x); ($x++); $(x++); $(++x); $$x; $(x + 1); $/a/; $\"a\"; $a[x]; $length() }\n": inBlock(sExp(ePre("++", eField(x))), sExp(ePost("++", eField(x))), sExp(eField(ePost("++", x))), sExp(eField(ePre("++", x))), sExp(eField(eField(x))), sExp(eField(eOp("+", x, eNum(1)))), sExp(eField(eRe("a"))), sExp(eField(eStr("a"))), sExp(eField(eIndex("a", x))), sExp(eField(eCall("length")))), "{ a[b[1]]; a[(x = 1)]; a[\"k\"] }\n": inBlock(sExp(eIndex("a", eIndex("b", eNum(1)))), sExp(eIndex("a", eSet("=", x, eNum(1)))), sExp(eIndex("a", eStr("k")))), "{ length(); length(x); split(x, a, /b/); sprintf(\"\", (x y), 1) }\n": inBlock(sExp(eCall("length")), sExp(eCall("length", x)), sExp(eCall("split", x, eVar("a"), eRe("b"))), sExp(eCall("sprintf", eStr(""), eCat(x, y), eNum(1)))),
	}
	for s, p := range cases {
		if got := impl.ShowProg(p); got != s {
			t.Errorf("ShowProg = %q, not %q", got, s)
		}
		checkProgComesBack(t, p)
	}
	for i, p := range [][]impl.Rule{nil, {}, {{}}, {rAll(), {}}, inRule(sNext()), inBlock(eVar("x")), {{When: 4, Body: sBlock()}}} {
		if got := impl.ShowProg(p); got != "" {
			t.Errorf("%d: %q", i, got)
		}
	}
	// A text that is longer than one that Parse takes is told, too.
	long := inBlock(sExp(eStr(strings.Repeat("a", 5000))))
	if got := impl.ShowProg(long); !impl.ProgOk(long) || len(got) != 5007 {
		t.Error(len(got))
	}
}

// kidsOf tells of each kind how its kids are: e an expression, p a place, v a
// variable, b a block, s a statement; what is behind ? may lack, * any number.
func kidsOf() map[int]string {
	return map[int]string{
		impl.ENum: "", impl.EStr: "", impl.ERe: "", impl.EField: "e", impl.EVar: "", impl.EIndex: "e", impl.ESet: "pe", impl.ECond: "eee", impl.EOr: "ee", impl.EAnd: "ee", impl.EIn: "e", impl.EMatch: "ee", impl.ECmp: "ee", impl.ECat: "ee", impl.EOp: "ee", impl.ENot: "e", impl.ENeg: "e", impl.EPre: "p", impl.EPost: "p",
		impl.SExp: "e", impl.SPrint: "?eeeeeeee", impl.SPrintf: "e?eeeeeee", impl.SIf: "eb?b", impl.SWhile: "eb", impl.SFor: "vb", impl.SNext: "", impl.SExit: "", impl.SDel: "e", impl.SBlock: "?ssssssssssssssssssss",
	}
}

func callKids() map[string]string {
	return map[string]string{"length": "?e", "substr": "ee?e", "index": "ee", "tolower": "e", "toupper": "e", "int": "e", "split": "ev?e", "sub": "ee?p", "gsub": "ee?p", "match": "ee", "sprintf": "e?eeeeeee"}
}

func textsOf() map[int]string {
	return map[int]string{impl.ESet: "= += -= *= /= %=", impl.EMatch: "~ !~", impl.ECmp: "< <= == != > >=", impl.EOp: "+ - * / % ^", impl.EPre: "++ --", impl.EPost: "++ --"}
}

func wantedNodeOk(n impl.Node, deep int) bool {
	if deep > 30 || n.N != 0 && (n.Kind != impl.ENum || n.N < 0 || n.N > 1000000000000) {
		return false
	}
	form, known := kidsOf()[n.Kind]
	named := slices.Contains([]int{impl.EVar, impl.EIndex, impl.EIn, impl.SFor, impl.SDel}, n.Kind)
	_, isCall := callCounts()[n.Text]
	signs, signed := textsOf()[n.Kind]
	switch {
	case n.Kind == impl.ECall:
		form, known = callKids()[n.Text]
	case named:
		known = !isCall && !slices.Contains(allKeys(), n.Text) && len(n.Text) <= 20 && nameForm.FindString(n.Text) == n.Text && n.Text != ""
	case signed:
		known = slices.Contains(strings.Fields(signs), n.Text)
	case n.Kind == impl.ERe:
		_, ok := impl.ParseRe(n.Text)
		known = ok && strokeForm.FindString("/"+n.Text+"/") == "/"+n.Text+"/"
	case n.Kind != impl.EStr:
		known = known && n.Text == ""
	}
	needed, _, _ := strings.Cut(form, "?")
	form = strings.ReplaceAll(form, "?", "")
	if !known || len(n.Kids) < len(needed) || len(n.Kids) > len(form) {
		return false
	}
	for i, kid := range n.Kids {
		exp, place := kid.Kind >= 0 && kid.Kind < 20, kid.Kind >= 3 && kid.Kind <= 5
		fits := map[byte]bool{'e': exp, 'p': place, 'v': kid.Kind == impl.EVar, 'b': kid.Kind == impl.SBlock, 's': kid.Kind >= 20 && kid.Kind < 30}[form[i]]
		if !fits || !wantedNodeOk(kid, deep+1) {
			return false
		}
	}
	return true
}

// wantedNames tells the names of arrays and of other things, with a name for
// each time that it stands there.
func wantedNames(n impl.Node) ([]string, []string) {
	arrays, others := []string{}, []string{}
	switch n.Kind {
	case impl.EVar, impl.SFor:
		others = append(others, n.Text)
	case impl.EIndex, impl.EIn, impl.SDel:
		arrays = append(arrays, n.Text)
	}
	for i, kid := range n.Kids {
		a, b := wantedNames(kid)
		if kid.Kind == impl.EVar && (n.Kind == impl.SFor && i == 0 || n.Kind == impl.ECall && n.Text == "split" && i == 1) {
			a, b = append(a, kid.Text), b[1:]
		}
		arrays, others = append(arrays, a...), append(others, b...)
	}
	return arrays, others
}

func wantedNamesOf(p []impl.Rule) ([]string, []string) {
	arrays, others := []string{}, []string{}
	for _, rule := range p {
		list := []impl.Node{rule.Body}
		if rule.When == impl.WPat {
			list = append(list, rule.Pat)
		}
		for _, n := range list {
			a, b := wantedNames(n)
			arrays, others = append(arrays, a...), append(others, b...)
		}
	}
	return arrays, others
}

func wantedProgOk(p []impl.Rule) bool {
	many := 0
	for _, rule := range p {
		many += countNodes(rule.Body)
		if rule.When == impl.WPat {
			many += countNodes(rule.Pat)
		}
		switch {
		case rule.When < 0 || rule.When > 3, rule.Body.Kind != impl.SBlock, !wantedNodeOk(rule.Body, 0):
			return false
		case rule.When == impl.WPat && (rule.Pat.Kind > 19 || !wantedNodeOk(rule.Pat, 0)):
			return false
		case rule.When != impl.WPat && !sameNode(rule.Pat, impl.Node{}):
			return false
		}
	}
	arrays, others := wantedNamesOf(p)
	for _, name := range arrays {
		if slices.Contains(others, name) || slices.Contains(ownNames(), name) {
			return false
		}
	}
	return len(p) > 0 && len(p) <= 20 && many <= 400
}

func checkProgOk(t *testing.T, p []impl.Rule) {
	t.Helper()
	want := wantedProgOk(p)
	if got := impl.ProgOk(p); got != want {
		t.Fatalf("ProgOk = %v of %v", got, p)
	}
	if !want && impl.ShowProg(p) != "" {
		t.Fatalf("ShowProg of %v", p)
	}
}

// nodesOf tells where all nodes of a program are.
func nodesOf(p []impl.Rule) []*impl.Node {
	list := []*impl.Node{}
	for i := range p {
		list = append(list, &p[i].Pat, &p[i].Body)
	}
	for i := 0; i < len(list); i++ {
		for k := range list[i].Kids {
			list = append(list, &list[i].Kids[k])
		}
	}
	return list
}

// changesOf tells nodes that part from one in a single place.
func changesOf(n impl.Node) []impl.Node {
	list := []impl.Node{}
	add := func(change func(*impl.Node)) {
		other := copyNode(n)
		change(&other)
		list = append(list, other)
	}
	for kind := -1; kind <= 30; kind++ {
		if kind != n.Kind {
			add(func(o *impl.Node) { o.Kind = kind })
		}
	}
	for _, number := range []int{0, 1, -1, 5, impl.MaxNum, impl.MaxNum + 1, math.MinInt, math.MaxInt} {
		if number != n.N {
			add(func(o *impl.Node) { o.N = number })
		}
	}
	texts := slices.Concat(allSigns(), allKeys(), ownNames(), slices.Sorted(maps.Keys(callCounts())), []string{"", "A", "x", "q", " ", "1", "x ", "abcdefghijklmnopqrst", "abcdefghijklmnopqrstu", "a b", "\xff", "\n", "(", "a/b", `a\/b`, `a\`, `a\\`, "a\n", "/", `\/`, "a|b", "[", "a{", "++x"})
	for _, text := range texts {
		if text != n.Text {
			add(func(o *impl.Node) { o.Text = text })
		}
	}
	more := []impl.Node{{}, eVar("x"), eVar("A"), eStr(""), eField(eNum(1)), eIndex("A", eNum(1)), eNeg(eVar("x")), sNext(), sBlock(), sExp(eVar("x")), {Kind: -1}, {Kind: 30}, sPrintf(), eVar(""), eRe("(")}
	for _, kid := range more {
		add(func(o *impl.Node) { o.Kids = append(o.Kids, kid) })
		add(func(o *impl.Node) { o.Kids = append([]impl.Node{kid}, o.Kids...) })
		for i := range n.Kids {
			if !sameNode(kid, n.Kids[i]) {
				add(func(o *impl.Node) { o.Kids[i] = kid })
			}
		}
	}
	if len(n.Kids) > 0 {
		add(func(o *impl.Node) { o.Kids = o.Kids[1:] })
		add(func(o *impl.Node) { o.Kids = o.Kids[:len(o.Kids)-1] })
		add(func(o *impl.Node) { o.Kids = nil })
	}
	if len(n.Kids) > 1 && !sameNode(n.Kids[0], n.Kids[1]) {
		add(func(o *impl.Node) { o.Kids[0], o.Kids[1] = o.Kids[1], o.Kids[0] })
	}
	return list
}

// programOfAll tells a program with each kind of node in it.
func programOfAll() []impl.Rule {
	x, y := eVar("x"), eVar("y")
	exps := []impl.Node{}
	for name, form := range callKids() {
		kids := []impl.Node{}
		for _, kind := range strings.ReplaceAll(form, "?", "") {
			kids = append(kids, map[rune]impl.Node{'e': x, 'v': eVar("A"), 'p': eIndex("A", x)}[kind])
		}
		exps = append(exps, eCall(name, kids...))
	}
	slices.SortFunc(exps, func(a impl.Node, b impl.Node) int { return strings.Compare(a.Text, b.Text) })
	calls := sBlock()
	for _, e := range exps {
		calls.Kids = append(calls.Kids, sExp(e))
	}
	return []impl.Rule{
		rBegin(sExp(eSet("+=", eField(x), eCond(eNum(1), eStr("a"), eRe("b")))), sExp(eOr(eAnd(x, y), eIn(x, "A"))), sExp(eMatch("!~", eCmp("<", x, y), eCat(x, y)))),
		rPat(eOp("^", eNot(x), eNeg(y)), sPrint(ePre("++", x), ePost("--", eIndex("A", y))), sPrintf(x, eField(y)), sNext()),
		rAll(sIf(x, sBlock(sExit()), sBlock()), sIf(x, sBlock()), sWhile(x, sBlock(sDel("A", y))), sFor("x", "A", sBlock(sBlock(), sPrint()))),
		rEnd(calls),
	}
}

func TestProgOkOfEachChange(t *testing.T) {
	t.Parallel()
	p := programOfAll()
	checkProgOk(t, p)
	if !impl.ProgOk(p) {
		t.Fatal("a program with all")
	}
	kinds := map[int]bool{}
	for i, n := range nodesOf(p) {
		kinds[n.Kind] = true
		for _, other := range changesOf(*n) {
			changed := copyRules(p)
			*nodesOf(changed)[i] = other
			checkProgOk(t, changed)
			if impl.SameProg(p, changed) || impl.SameProg(changed, p) || !impl.SameProg(changed, copyRules(changed)) {
				t.Fatalf("SameProg at %d: %v and %v", i, *n, other)
			}
			checkNames(t, changed)
			if impl.ProgOk(changed) {
				checkProgComesBack(t, changed)
			}
		}
	}
	if len(kinds) != 30 {
		t.Error(len(kinds))
	}
	for i := range p {
		for _, when := range []int{-1, 0, 1, 2, 3, 4, 5, 256, math.MinInt, math.MaxInt} {
			changed := copyRules(p)
			changed[i].When = when
			checkProgOk(t, changed)
			checkNames(t, changed)
			if impl.SameProg(p, changed) != (when == p[i].When) {
				t.Error("SameProg", i, when)
			}
		}
	}
}

func TestProgOkOfMadeChanges(t *testing.T) {
	t.Parallel()
	from := rand.New(rand.NewSource(2))
	for _, p := range madePrograms(3, 1500) {
		checkProgOk(t, p)
		for range 6 {
			changed := copyRules(p)
			for range 1 + from.Intn(2) {
				list := nodesOf(changed)
				at := list[from.Intn(len(list))]
				others := changesOf(*at)
				*at = others[from.Intn(len(others))]
			}
			checkProgOk(t, changed)
			checkNames(t, changed)
			if impl.SameProg(p, changed) != sameRules(p, changed) {
				t.Fatalf("SameProg of %v and %v", p, changed)
			}
		}
	}
}

func TestProgOkOfPatterns(t *testing.T) {
	for _, when := range []int{impl.WAll, impl.WBegin, impl.WEnd} {
		for i, pat := range []impl.Node{{N: 1}, {Kind: 1}, {Text: "a"}, {Kids: []impl.Node{{}}}, eVar("x"), eNum(1), {Kind: -1}} {
			if impl.ProgOk([]impl.Rule{{When: when, Pat: pat, Body: sBlock()}}) {
				t.Error(when, i)
			}
		}
		if !impl.ProgOk([]impl.Rule{{When: when, Pat: impl.Node{Kids: []impl.Node{}}, Body: sBlock()}}) {
			t.Error(when, "a zero pattern with an empty list")
		}
	}
	for i, pat := range []impl.Node{sExp(eVar("x")), sBlock(), sNext(), sPrint(), {Kind: 30}, {Kind: -1}, {N: -1}, {Text: "a"}} {
		if impl.ProgOk([]impl.Rule{{When: impl.WPat, Pat: pat, Body: sBlock()}}) {
			t.Error("pattern", i)
		}
	}
	for i, body := range []impl.Node{{}, sExp(eVar("x")), sNext(), sIf(eVar("x"), sBlock()), eVar("x"), {Kind: impl.SBlock, N: 1}, {Kind: impl.SBlock, Text: "x"}} {
		for _, when := range []int{impl.WAll, impl.WBegin, impl.WEnd, impl.WPat} {
			if impl.ProgOk([]impl.Rule{{When: when, Body: body}}) {
				t.Error("body", i, when)
			}
		}
	}
	if !impl.ProgOk([]impl.Rule{{When: impl.WPat, Body: sBlock()}}) {
		t.Error("the pattern 0")
	}
}

func TestProgOkOfExpressionsForTexts(t *testing.T) {
	long := "[" + strings.Repeat("a", impl.MaxText-4) + "]"
	good := []string{"", "a", "a|b", `\/`, `a\/b\/`, `\\a`, `\"`, "\"#;}", "\x00\xff\t", "=", `[\/]`, "[a-z]{2,}", `\\\/`, " ", long, strings.Repeat("a", 100)}
	bad := []string{"\n", "a\n", "\na", "a\nb", "/", "a/", "/a", "a/b", "//", "/ /", `\`, `a\`, `\\`, `a\\`, `\/\`, `\//`, "(", ")", "[", "*", "a**", "a{", "a{1", "a{2,1}", "[b-a]", "a)", "x/ /y", "a/ # b", long + "a", long + "aa", strings.Repeat("a", 101), strings.Repeat("(", 201) + strings.Repeat(")", 201)}
	for _, s := range good {
		checkProgOk(t, inRule(eRe(s)))
		if !impl.ProgOk(inRule(eRe(s))) {
			t.Errorf("%.100q is an expression", s)
		}
		checkProgComesBack(t, inRule(eRe(s)))
		checkProgComesBack(t, inBlock(sExp(eMatch("~", eCat(eRe(s), eRe(s)), eRe(s)))))
	}
	for _, s := range bad {
		if impl.ProgOk(inRule(eRe(s))) {
			t.Errorf("%.100q is no expression", s)
		}
	}
}

// Each place of a name: as an array's, as another thing's, and both.
func TestNamesOfArraysAndOthers(t *testing.T) {
	x := eVar("x")
	arrays := map[string]func(string) impl.Node{
		"index": func(s string) impl.Node { return sExp(eIndex(s, x)) }, "in": func(s string) impl.Node { return sExp(eIn(x, s)) }, "delete": func(s string) impl.Node { return sDel(s, x) }, "for": func(s string) impl.Node { return sFor("x", s, sBlock()) }, "split": func(s string) impl.Node { return sExp(eCall("split", x, eVar(s))) }, "split by": func(s string) impl.Node { return sExp(eCall("split", x, eVar(s), x)) },
		"set": func(s string) impl.Node { return sExp(eSet("=", eIndex(s, x), x)) }, "step": func(s string) impl.Node { return sExp(ePost("++", eIndex(s, x))) }, "sub": func(s string) impl.Node { return sExp(eCall("sub", x, x, eIndex(s, x))) }, "deep": func(s string) impl.Node {
			return sIf(x, sBlock(), sBlock(sWhile(x, sBlock(sExp(eNeg(eIndex(s, x)))))))
		},
	}
	others := map[string]func(string) impl.Node{
		"alone": func(s string) impl.Node { return sExp(eVar(s)) }, "set": func(s string) impl.Node { return sExp(eSet("=", eVar(s), x)) }, "step": func(s string) impl.Node { return sExp(ePre("++", eVar(s))) }, "for": func(s string) impl.Node { return sFor(s, "B", sBlock()) }, "key": func(s string) impl.Node { return sExp(eIndex("B", eVar(s))) }, "in": func(s string) impl.Node { return sExp(eIn(eVar(s), "B")) }, "split": func(s string) impl.Node { return sExp(eCall("split", eVar(s), eVar("B"))) }, "split by": func(s string) impl.Node { return sExp(eCall("split", x, eVar("B"), eVar(s))) }, "substr": func(s string) impl.Node { return sExp(eCall("substr", x, eVar(s))) }, "sub": func(s string) impl.Node { return sExp(eCall("sub", x, x, eVar(s))) }, "print": func(s string) impl.Node { return sPrint(eVar(s)) }, "delete": func(s string) impl.Node { return sDel("B", eVar(s)) }, "in a for": func(s string) impl.Node { return sFor("x", "B", sBlock(sPrint(eVar(s)))) }, "field": func(s string) impl.Node { return sExp(eField(eVar(s))) },
	}
	check := func(ok bool, p ...impl.Rule) {
		t.Helper()
		if impl.ProgOk(p) != ok {
			t.Errorf("ProgOk of %v is not %v", p, ok)
		}
		checkNames(t, p)
		s := wantedShow(p)
		if _, line := impl.Parse(s); line == 0 != ok || line > 1 {
			t.Errorf("Parse of %q: %d", s, line)
		}
	}
	names := slices.Concat(ownNames(), []string{"a", "_", "NF1", "nf", "RS", "abcdefghijklmnopqrst"})
	for how, array := range arrays {
		for _, name := range names {
			check(!slices.Contains(ownNames(), name), rAll(array(name)))
		}
		check(false, rAll(array("x")))
		for _, thing := range others {
			for _, name := range names {
				check(true, rAll(thing(name)))
			}
			check(true, rAll(array("a"), thing("b")))
			check(false, rAll(array("a"), thing("a")))
			check(false, rAll(thing("a"), array("a")))
			check(false, rBegin(thing("a")), rEnd(array("a")))
			check(false, rPat(eIndex("a", x)), rEnd(thing("a")))
			check(false, rPat(eVar("a"), array("a")))
		}
		for _, name := range slices.Concat(allKeys(), slices.Sorted(maps.Keys(callCounts())), []string{"", "1", "a b", "a-", "abcdefghijklmnopqrstu", "\xff", "a\n"}) {
			if impl.ProgOk(inBlock(array(name))) {
				t.Errorf("%s: %q is no name", how, name)
			}
			for other, thing := range others {
				if impl.ProgOk(inBlock(thing(name))) {
					t.Errorf("%s: %q is no name", other, name)
				}
			}
		}
	}
}

func checkNames(t *testing.T, p []impl.Rule) {
	t.Helper()
	arrays, others := wantedNamesOf(p)
	slices.Sort(arrays)
	arrays = slices.Compact(arrays)
	slices.Sort(others)
	others = slices.DeleteFunc(slices.Compact(others), func(name string) bool { return slices.Contains(arrays, name) })
	if got := impl.Arrays(p); !slices.Equal(got, arrays) {
		t.Fatalf("Arrays = %q, not %q, of %v", got, arrays, p)
	}
	if got := impl.Scalars(p); !slices.Equal(got, others) {
		t.Fatalf("Scalars = %q, not %q, of %v", got, others, p)
	}
}

func TestArraysAndScalars(t *testing.T) {
	cases := []struct {
		s      string
		arrays string
		others string
	}{
		{"{ }", "", ""}, {"1", "", ""}, {"/a/ { print \"b\" }", "", ""}, {"x", "", "x"}, {"{ n[$1] += x; split($2, m); for (k in n) y = k }", "m n", "k x y"}, {"{ z; y; x; z; y; x }", "", "x y z"}, {"{ c[1]; b[1]; a[1]; b[2] }", "a b c", ""}, {"{ b; B; _; a1; a; Z; a10; a2 }", "", "B Z _ a a1 a10 a2 b"}, {"NF > 1 { print NR, FS }", "", "FS NF NR"}, {"{ sub(/a/, x) } { match(y, /b/) }", "", "x y"},
		{"x in a { delete b[y] } BEGIN { z = c[w] }", "a b c", "w x y z"}, {"{ split(a[x], b, c[y]) }", "a b c", "x y"}, {"{ split(x, (a)) }", "a", "x"}, {"{ for (i in a) for (j in b) print i j c[i] }", "a b c", "i j"}, {"{ if (a) b; else c; while (d) { e } }", "", "a b c d e"}, {"END { x } BEGIN { w }", "", "w x"}, {"$a[$b++]--", "a", "b"}, {"{ printf \"%s\", f(x) }", "", "f x"},
	}
	for _, c := range cases {
		p, line := impl.Parse(c.s)
		if line != 0 {
			t.Error(c.s, line)
		}
		if got := impl.Arrays(p); strings.Join(got, " ") != c.arrays || len(got) != len(strings.Fields(c.arrays)) {
			t.Errorf("Arrays of %q = %q", c.s, got)
		}
		if got := impl.Scalars(p); strings.Join(got, " ") != c.others || len(got) != len(strings.Fields(c.others)) {
			t.Errorf("Scalars of %q = %q", c.s, got)
		}
		checkNames(t, p)
	}
	for _, p := range madePrograms(4, 1500) {
		checkNames(t, p)
	}
}

// What is no program has names, too; a name that is an array's is none of the
// other ones.
func TestNamesOfWhatIsNoProgram(t *testing.T) {
	a, x := eIndex("a", eNum(1)), eVar("x")
	cases := []struct {
		p      []impl.Rule
		arrays string
		others string
	}{
		{nil, "", ""}, {[]impl.Rule{{}}, "", ""}, {[]impl.Rule{{When: impl.WAll, Pat: x, Body: sBlock()}}, "", ""}, {[]impl.Rule{{When: impl.WBegin, Pat: x, Body: sBlock(sExp(a))}}, "a", ""}, {[]impl.Rule{{When: impl.WEnd, Pat: a, Body: sBlock(sExp(x))}}, "", "x"}, {[]impl.Rule{{When: 4, Pat: a, Body: x}}, "", "x"}, {[]impl.Rule{{When: -1, Pat: a, Body: a}}, "a", ""}, {[]impl.Rule{{When: impl.WPat, Pat: a, Body: x}}, "a", "x"},
		{inBlock(sExp(eSet("=", a, eVar("a")))), "a", ""}, {inBlock(sExp(eIndex("NF", x)), sExp(eVar("NF"))), "NF", "x"}, {inBlock(eCall("split", x)), "", "x"}, {inBlock(eCall("split")), "", ""}, {inBlock(eCall("split", x, eNeg(x))), "", "x"}, {inBlock(eCall("split", x, eIndex("b", x), a)), "a b", "x"}, {inBlock(eCall("split", x, eVar("b"), a, eVar("y"))), "a b", "x y"}, {inBlock(eCall("sub", x, eVar("b"))), "", "b x"},
		{inBlock(eNode(impl.SFor, "x")), "", "x"}, {inBlock(eNode(impl.SFor, "x", eNeg(eVar("y")))), "", "x y"}, {inBlock(eNode(impl.SFor, "x", eVar("b"))), "b", "x"}, {inBlock(eNode(impl.SFor, "x", eNode(impl.EVar, "b", eVar("y"), eVar("z")))), "b", "x y z"}, {inBlock(eNode(99, "q", x, a)), "a", "x"}, {inBlock(eNode(impl.EVar, "q", x)), "", "q x"}, {inBlock(eNode(impl.EStr, "q", x)), "", "x"}, {inBlock(eNode(impl.SDel, "q")), "q", ""},
		{slices.Repeat(inRule(x), 30), "", "x"}, {inRule(deepNode(x, 100000, eNeg)), "", "x"},
	}
	for i, c := range cases {
		if got := strings.Join(impl.Arrays(c.p), " "); got != c.arrays {
			t.Errorf("%d: Arrays = %q", i, got)
		}
		if got := strings.Join(impl.Scalars(c.p), " "); got != c.others {
			t.Errorf("%d: Scalars = %q", i, got)
		}
	}
}

func TestSameProg(t *testing.T) {
	empty := []impl.Node{}
	same := [][2][]impl.Rule{
		{nil, nil}, {nil, {}}, {{}, {}}, {{{}}, {{Pat: impl.Node{Kids: empty}, Body: impl.Node{Kids: empty}}}}, {inBlock(), {{Body: impl.Node{Kind: impl.SBlock}}}}, {inRule(eNode(impl.EVar, "x")), {{When: 1, Pat: impl.Node{Kind: 4, Text: "x", Kids: empty}, Body: sBlock(sPrint())}}}, {inBlock(eNode(-5, "?", eNode(99, "\x00"))), inBlock(eNode(-5, "?", eNode(99, "\x00")))},
	}
	for i, c := range same {
		if !impl.SameProg(c[0], c[1]) || !impl.SameProg(c[1], c[0]) {
			t.Error(i)
		}
	}
	p := programOfAll()
	if !impl.SameProg(p, p) || !impl.SameProg(p, copyRules(p)) {
		t.Error("the same program")
	}
	for i := range p {
		less := slices.Delete(slices.Clone(p), i, i+1)
		twice := slices.Insert(slices.Clone(p), i, p[i])
		turned := slices.Clone(p)
		turned[i], turned[(i+1)%len(p)] = turned[(i+1)%len(p)], turned[i]
		for _, q := range [][]impl.Rule{less, twice, turned} {
			if impl.SameProg(p, q) || impl.SameProg(q, p) {
				t.Error(i)
			}
		}
	}
	for i, pat := range []impl.Node{eNum(1), eVar("x"), {Text: "a"}, {Kids: []impl.Node{{}}}} {
		other := []impl.Rule{{Pat: pat, Body: sBlock()}}
		if impl.SameProg(inBlock(), other) || impl.SameProg(other, inBlock()) || !impl.SameProg(other, copyRules(other)) {
			t.Error("a pattern that is none", i)
		}
	}
	if impl.SameProg(nil, inBlock()) || impl.SameProg(inBlock(), nil) || impl.SameProg(inBlock(), inBlock(sBlock())) {
		t.Error("others")
	}
	deep := inRule(deepNode(eVar("x"), 100000, eNeg))
	deepToo := inRule(deepNode(eVar("x"), 100000, eNeg))
	deeper := inRule(deepNode(eVar("x"), 100001, eNeg))
	other := inRule(deepNode(eVar("y"), 100000, eNeg))
	if !impl.SameProg(deep, deepToo) || impl.SameProg(deep, deeper) || impl.SameProg(deep, other) {
		t.Error("deep ones")
	}
}

// heldByItself tells a node that is its own kid, of so many.
func heldByItself(kind int, text string, many int, which int) impl.Node {
	kids := make([]impl.Node, many)
	for i := range kids {
		kids[i] = eVar("x")
	}
	kids[which] = eNode(kind, text, kids...)
	kids[which].Kids = kids
	return kids[which]
}

// doubled tells a node in which each has the next one twice.
func doubled(n impl.Node, times int) impl.Node {
	return deepNode(n, times, func(n impl.Node) impl.Node { return eOp("+", n, n) })
}

// Promise 17: each function answers soon, whatever kids hold.
func TestProgramsThatHoldThemselves(t *testing.T) {
	begin := time.Now()
	ring := func(many int) impl.Node {
		kids := make([]impl.Node, many)
		for i := range kids {
			kids[i] = eNode(impl.ENeg, "", impl.Node{})
		}
		for i := range kids {
			kids[i].Kids = kids[(i+1)%many : (i+1)%many+1 : (i+1)%many+1]
		}
		return kids[0]
	}
	nodes := []impl.Node{heldByItself(impl.ENeg, "", 1, 0), heldByItself(impl.EOp, "+", 2, 0), heldByItself(impl.EOp, "+", 2, 1), heldByItself(impl.SBlock, "", 1, 0), heldByItself(impl.SBlock, "", 20, 7), heldByItself(impl.ECall, "split", 3, 2), heldByItself(impl.SFor, "k", 2, 1), heldByItself(impl.EVar, "v", 3, 1), heldByItself(impl.ENum, "", 1, 0), doubled(eVar("x"), 100), doubled(eIndex("a", eVar("x")), 60), doubled(eVar("x"), 27), ring(7), ring(5)}
	for i, n := range nodes {
		for when := -1; when <= 4; when++ {
			p := []impl.Rule{{When: when, Pat: n, Body: n}, {When: when, Body: sBlock(n)}}
			q := []impl.Rule{{When: when, Pat: n, Body: n}, {When: when, Body: sBlock(n)}}
			if impl.ProgOk(p) || impl.ShowProg(p) != "" || !impl.SameProg(p, q) {
				t.Error(i, when)
			}
			if impl.ProgOk([]impl.Rule{{When: when, Pat: n, Body: sBlock(sExp(n))}}) {
				t.Error(i, when)
			}
			if arrays := impl.Arrays(p); len(arrays) > 1 {
				t.Error(i, when, arrays)
			}
			if others := impl.Scalars(p); len(others) > 2 {
				t.Error(i, when, others)
			}
			for k, other := range nodes {
				q := []impl.Rule{{When: when, Pat: other, Body: other}, {When: when, Body: sBlock(other)}}
				// Rings hold the same without end, however long they are.
				if same := impl.SameProg(p, q); same != (i == k || n.Kind == impl.ENeg && other.Kind == impl.ENeg) {
					t.Error(i, k, same)
				}
			}
		}
	}
	if got := impl.Arrays(inBlock(heldByItself(impl.ECall, "split", 3, 2))); !slices.Equal(got, []string{"x"}) {
		t.Error(got)
	}
	if got := impl.Scalars(inBlock(heldByItself(impl.SFor, "k", 2, 1))); !slices.Equal(got, []string{"k"}) {
		t.Error(got)
	}
	if !impl.SameProg(inRule(doubled(eVar("x"), 100)), inRule(doubled(eVar("x"), 100))) || impl.SameProg(inRule(doubled(eVar("x"), 100)), inRule(doubled(eVar("y"), 100))) {
		t.Error("kids that are there twice")
	}
	if time.Since(begin) > time.Minute {
		t.Error(time.Since(begin))
	}
}

// The same list of kids in two places has names by each of them.
func TestNamesOfAListInTwoPlaces(t *testing.T) {
	kids := []impl.Node{eVar("x"), eVar("y")}
	split, cat := eCall("split", kids...), eNode(impl.ECat, "", kids...)
	for _, list := range [][]impl.Node{{sExp(split), sExp(cat)}, {sExp(cat), sExp(split)}} {
		p := inBlock(list...)
		if impl.ProgOk(p) || !slices.Equal(impl.Arrays(p), []string{"y"}) || !slices.Equal(impl.Scalars(p), []string{"x"}) {
			t.Error(impl.Arrays(p), impl.Scalars(p))
		}
	}
	one := sBlock(sExp(eVar("x")))
	twice := inBlock(sIf(eVar("y"), one, one))
	if !impl.ProgOk(twice) {
		t.Error("a block in two places")
	}
	checkProgComesBack(t, twice)
}

// giveRoom gives each list of kids a node that stands behind it.
func giveRoom(n *impl.Node) {
	kids := make([]impl.Node, len(n.Kids), len(n.Kids)+3)
	copy(kids, n.Kids)
	kids[:cap(kids)][len(kids)] = eVar("behind")
	n.Kids = kids
	for i := range kids {
		giveRoom(&kids[i])
	}
}

// Promise 17: nothing is written into, nor into what stands behind it, and each
// answer is the caller's alone.
func TestProgramsAreNewAndNotWrittenInto(t *testing.T) {
	spare := make([]impl.Rule, 4, 9)
	copy(spare, programOfAll())
	for i := range spare {
		giveRoom(&spare[i].Pat)
		giveRoom(&spare[i].Body)
	}
	spare[:5][4] = rPat(eVar("behind"))
	want := copyRules(spare[:5])
	ask := func() {
		impl.ProgOk(spare)
		impl.ShowProg(spare)
		impl.SameProg(spare, want)
		impl.SameProg(want, spare)
		impl.Arrays(spare)
		impl.Scalars(spare)
	}
	ask()
	if !sameRules(spare[:5], want) {
		t.Error("rules were written into")
	}
	for _, n := range nodesOf(spare) {
		behind := n.Kids[:cap(n.Kids)][len(n.Kids)]
		if !sameNode(behind, eVar("behind")) {
			t.Error("a list was written into")
		}
	}
	const s = "BEGIN { x = 1; a[1] } /b/ { if (x) print x, length(x); else { y++ } }\nx y\nz"
	first, _ := impl.Parse(s)
	kept := copyRules(first)
	lists := map[*impl.Node]bool{}
	for _, n := range nodesOf(first) {
		if len(n.Kids) == 0 {
			continue
		}
		all := n.Kids[:cap(n.Kids)]
		for i := range all {
			if lists[&all[i]] {
				t.Error("two lists share memory")
			}
			lists[&all[i]] = true
		}
	}
	for _, n := range nodesOf(first) {
		n.Kind, n.Text = 99, "changed"
	}
	if second, line := impl.Parse(s); line != 0 || !sameRules(second, kept) {
		t.Error("an answer was kept")
	}
	p := copyRules(kept)
	for _, names := range []func([]impl.Rule) []string{impl.Arrays, impl.Scalars} {
		list := names(p)
		again := slices.Clone(list)
		for i := range list {
			list[i] = "changed"
		}
		if !slices.Equal(names(p), again) || !sameRules(p, kept) {
			t.Error("names were kept")
		}
	}
}
