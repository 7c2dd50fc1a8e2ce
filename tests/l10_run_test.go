package tests

import (
	"fmt"
	"math"
	"math/rand"
	"slices"
	"strings"
	"testing"
	"time"

	"loop.example/g00560/impl"
)

func mustProg(t *testing.T, s string) []impl.Rule {
	t.Helper()
	p, line := impl.Parse(s)
	if line != 0 {
		t.Fatalf("Parse(%q): line %d", s, line)
	}
	return p
}

// checkRun holds Run and Trace against the chapter's words.
func checkRun(t *testing.T, p []impl.Rule, lines []string, fuel int) impl.Result {
	t.Helper()
	want, begun := wantedRun(p, lines, fuel)
	got := impl.Run(p, lines, fuel)
	if got != want {
		t.Fatalf("Run of %.300q, %.100q with %d = %d %.300q, not %d %.300q", impl.ShowProg(p), lines, fuel, got.Code, got.Out, want.Code, want.Out)
	}
	if trace := impl.Trace(p, lines, fuel); !slices.Equal(trace, begun) {
		t.Fatalf("Trace of %.300q, %.100q with %d = %v, not %v", impl.ShowProg(p), lines, fuel, trace, begun)
	}
	return got
}

// checkFuels tells how much fuel a run takes at least (at most most of it). With
// less it is a run whose fuel ends: what it put out, and which rules were begun,
// goes on from fuel to fuel.
func checkFuels(t *testing.T, p []impl.Rule, lines []string, most int) int {
	t.Helper()
	before, begun := "", make([]int, len(p))
	for fuel := range most + 1 {
		r := checkRun(t, p, lines, fuel)
		trace := impl.Trace(p, lines, fuel)
		for i, many := range trace {
			if many < begun[i] {
				t.Fatalf("%q with %d: %v after %v", impl.ShowProg(p), fuel, trace, begun)
			}
		}
		if !strings.HasPrefix(r.Out, before) || slices.Max(trace) > fuel {
			t.Fatalf("%q with %d: %q, %v after %q", impl.ShowProg(p), fuel, r.Out, trace, before)
		}
		if r.Code != impl.RunFuel {
			for _, more := range []int{fuel + 1, fuel + 7, impl.MaxFuel} {
				if impl.Run(p, lines, more) != r || !slices.Equal(impl.Trace(p, lines, more), trace) {
					t.Fatalf("%q ends with %d, but other than with %d", impl.ShowProg(p), fuel, more)
				}
			}
			return fuel
		}
		before, begun = r.Out, trace
	}
	return most
}

// checkEnd holds what a program puts out, and its code, against what is told here,
// and so what the machine makes of it.
func checkEnd(t *testing.T, s string, code int, out string, lines ...string) {
	t.Helper()
	p := mustProg(t, s)
	if r := impl.Run(p, lines, impl.MaxFuel); r.Code != code || r.Out != out {
		t.Errorf("Run of %q = %d %.300q, not %d %.300q", s, r.Code, r.Out, code, out)
	}
	if r := impl.RunCode(p, lines, impl.MaxFuel); r.Code != code || r.Out != out {
		t.Errorf("RunCode of %q = %d %.300q, not %d %.300q", s, r.Code, r.Out, code, out)
	}
	checkRun(t, p, lines, impl.MaxFuel)
	checkFuels(t, p, lines, 120)
}

func checkOut(t *testing.T, s string, out string, lines ...string) {
	t.Helper()
	checkEnd(t, s, impl.RunOk, out, lines...)
}

// checkBegin tells of the statements of a BEGIN rule.
func checkBegin(t *testing.T, s string, out string) {
	t.Helper()
	checkOut(t, "BEGIN { "+s+" }", out)
}

// checkStops tells of statements that end a run with a code, in each kind of rule:
// nothing comes behind them, not even END rules.
func checkStops(t *testing.T, code int, list ...string) {
	t.Helper()
	for _, s := range list {
		checkEnd(t, "BEGIN { print 1; "+s+"; print 2 }", code, "1\n")
		checkEnd(t, "{ print 1; "+s+"; print 2 } END { print 3 }", code, "1\n", "", "")
		checkEnd(t, "END { print 1; "+s+"; print 2 }", code, "1\n")
	}
}

func TestRunConstants(t *testing.T) {
	if impl.RunOk != 0 || impl.RunNone != 1 || impl.RunFuel != 2 || impl.RunNum != 3 || impl.RunRe != 4 || impl.RunFull != 5 || impl.MaxFuel != 100000 || impl.MaxOut != 20000 || impl.MaxCells != 200 {
		t.Error("constants")
	}
}

func TestCodeName(t *testing.T) {
	for code, want := range []string{"ok", "none", "fuel", "num", "re", "full"} {
		if got := impl.CodeName(code); got != want {
			t.Errorf("CodeName(%d) = %q", code, got)
		}
	}
	for _, code := range []int{-1, -2, -3, 6, 7, 100, math.MinInt, math.MaxInt} {
		if got := impl.CodeName(code); got != "" {
			t.Errorf("CodeName(%d) = %q", code, got)
		}
	}
}

// checkNone asks for what is no run: it puts out nothing, begins no rule, and takes
// no step.
func checkNone(t *testing.T, p []impl.Rule, lines []string, fuel int) {
	t.Helper()
	if r := impl.Run(p, lines, fuel); r != (impl.Result{Code: impl.RunNone}) {
		t.Errorf("%d rules, %d lines, fuel %d: %d %.60q", len(p), len(lines), fuel, r.Code, r.Out)
	}
	if trace := impl.Trace(p, lines, fuel); !slices.Equal(trace, make([]int, len(p))) {
		t.Errorf("%d rules, %d lines, fuel %d: %v", len(p), len(lines), fuel, trace)
	}
	if r := impl.RunCode(p, lines, fuel); r != (impl.Result{Code: impl.RunNone}) {
		t.Errorf("RunCode, %d rules, %d lines, fuel %d: %d %.60q", len(p), len(lines), fuel, r.Code, r.Out)
	}
	if steps := impl.Steps(p, lines, fuel); steps != 0 {
		t.Errorf("%d rules, %d lines, fuel %d: %d steps", len(p), len(lines), fuel, steps)
	}
}

// goodLines tells limits that are met exactly.
func goodLines() [][]string {
	return [][]string{nil, {}, {""}, {bytesLong(2000)}, {"\x00\xff\r\t"}, make([]string, 1000)}
}

func TestRunNone(t *testing.T) {
	p := mustProg(t, "BEGIN { print 1 } { print } END { print 2 }")
	lines := []string{"a", "b"}
	self := heldByItself(impl.SBlock, "", 1, 0)
	deep := impl.Rule{When: impl.WAll, Body: deepNode(sBlock(), 31, func(n impl.Node) impl.Node { return sBlock(n) })}
	for _, bad := range [][]impl.Rule{nil, {}, {{}}, {rAll(), {}}, append(slices.Clone(p), impl.Rule{When: 4, Body: sBlock()}), slices.Repeat([]impl.Rule{rAll()}, 21), inRule(sNext()), inBlock(eVar("x")), inBlock(sExp(eVar("next"))), inBlock(sExp(eVar("x")), sExp(eIndex("x", eNum(1)))), inBlock(sExp(eIndex("NF", eNum(1)))), inRule(eRe("(")), inRule(eCall("substr")), {{When: impl.WAll, Body: bigBody(401)}}, {deep}, {{When: impl.WAll, Body: self}}} {
		checkNone(t, bad, lines, 1000)
	}
	for _, bad := range [][]string{{"\n"}, {"a\n"}, {"\na"}, {"a", "b\nc"}, {bytesLong(2001)}, {"a", bytesLong(2001)}, {bytesLong(100000)}, {bytesLong(2000) + "\n"}, make([]string, 1001), make([]string, 100000)} {
		checkNone(t, p, bad, 1000)
	}
	for _, fuel := range []int{-1, -2, impl.MaxFuel + 1, math.MinInt, math.MaxInt} {
		checkNone(t, p, lines, fuel)
		checkNone(t, p, nil, fuel)
	}
	checkNone(t, nil, []string{"\n"}, -1)
	// Limits that are met exactly.
	for _, good := range goodLines() {
		for _, fuel := range []int{0, 5000, impl.MaxFuel} {
			want := impl.Result{Code: impl.RunFuel}
			if fuel > 0 {
				want = impl.Result{Out: "1\n" + strings.Join(append(slices.Clone(good), "2\n"), "\n")}
			}
			if r := impl.Run(p, good, fuel); r != want || impl.RunCode(p, good, fuel) != want {
				t.Errorf("%d lines, fuel %d: %d %.60q", len(good), fuel, r.Code, r.Out)
			}
		}
	}
	checkOut(t, strings.Repeat("{ print 1 }\n", 20), strings.Repeat("1\n", 40), "", "")
	if r := impl.Run([]impl.Rule{{When: impl.WAll, Body: bigBody(400)}}, lines, 1000); r.Code != impl.RunOk {
		t.Error("400 nodes", r.Code)
	}
}

func TestRunOfRules(t *testing.T) {
	lines := []string{"a 10 x", "b 9", "a 2.5 y z"}
	cases := [][2]string{
		{"{ }", ""}, {"{ print }", "a 10 x\nb 9\na 2.5 y z\n"}, {"1", "a 10 x\nb 9\na 2.5 y z\n"}, {"0", ""}, {"\"\"", ""}, {"\"0\"", "a 10 x\nb 9\na 2.5 y z\n"}, {"u", ""}, {"$3", "a 10 x\na 2.5 y z\n"}, {"$2 - 10", "b 9\na 2.5 y z\n"}, {"/b/ { print 1 }", "1\n"}, {"!/b/ { print NR }", "1\n3\n"},
		// BEGIN rules, then all rules of each line, then END rules, each in their order.
		{"END { print \"e\" } { print NR \"p\" } BEGIN { print \"b\" } NR > 1 { print NR \"q\" } BEGIN { print \"c\" } END { print \"f\" }", "b\nc\n1p\n2p\n2q\n3p\n3q\ne\nf\n"},
		{"BEGIN { print NR, NF, $0 \"|\" $1 \"|\" }", "0 0 ||\n"}, {"END { print NR, NF, $0 \"|\" $1 \"|\" }", "3 4 a 2.5 y z|a|\n"},
		// A pattern may give something, too, which what is behind it has.
		{"n++ { print n }", "2\n3\n"}, {"($1 = \"q\") { print }", "q 10 x\nq 9\nq 2.5 y z\n"}, {"x = $1 == \"b\"\n{ print x }", "0\nb 9\n1\n0\n"}, {"{ $0 = \"/a/\" } /a/ { n++ } END { print n }", "3\n"}, {"$0 = 0\n{ print 1 }", "1\n1\n1\n"},
		// next ends the rules of that line, of BEGIN and of END those of its kind.
		{"NR == 2 { next } { print NR }", "1\n3\n"}, {"{ print 1; next; print 2 } { print 3 }", "1\n1\n1\n"}, {"BEGIN { print 1; next; print 2 } BEGIN { print 3 } { print NR } END { print 4 }", "1\n1\n2\n3\n4\n"}, {"BEGIN { next } BEGIN { print 1 } END { print 2 }", "2\n"}, {"END { print 1; next; print 2 } END { print 3 } { print NR }", "1\n2\n3\n1\n"}, {"{ while (1) { print NR; next } } { print 9 }", "1\n2\n3\n"}, {"{ a[1]; a[2]; for (k in a) { print k; next } }", "1\n1\n1\n"}, {"{ if (NR == 2) { { next } } else { print NR } print 5 }", "1\n5\n3\n5\n"}, {"END { while (1) next } END { print 1 }", ""}, {"BEGIN { a[1]; for (k in a) next } BEGIN { print 1 } END { print k }", "1\n"},
		// exit ends these, too, and no more lines come, but END rules.
		{"NR == 2 { exit } { print NR } END { print \"e\", NR, $1 }", "1\ne 2 b\n"}, {"{ print 1; exit; print 2 } { print 3 } END { print 4 } END { print 5 }", "1\n4\n5\n"}, {"BEGIN { print 1; exit; print 2 } BEGIN { print 3 } { print 4 } END { print 5, NR, NF }", "1\n5 0 0\n"}, {"END { print 1; exit; print 2 } END { print 3 }", "1\n"}, {"{ exit } END { print 1; exit } END { print 2 }", "1\n"}, {"BEGIN { exit } END { print 1; next; print 2 } END { print 3 }", "1\n"}, {"{ while (1) { if (n++ == 2) exit } } END { print n, NR }", "3 1\n"}, {"BEGIN { a[1]; a[2]; for (k in a) { print k; exit } } { print } END { print k }", "1\n1\n"}, {"{ exit; next } END { print NR }", "1\n"}, {"{ next; exit } END { print NR }", "3\n"},
		// The record in END is still the last one, and may be another one then.
		{"END { $2 = \"q\"; print; $5 = \"v\" } END { print; $0 = \"m n\" } END { print $2, NF, NR }", "a q y z\na q y z v\nn 2 3\n"}, {"{ $1 = NR } END { print }", "3 2.5 y z\n"}, {"BEGIN { $0 = \"p q\"; exit } END { print $2 }", "q\n"},
	}
	for _, c := range cases {
		checkOut(t, c[0], c[1], lines...)
	}
	// Without lines the record of BEGIN is still there.
	checkOut(t, "BEGIN { $0 = \"p q\" } { print } END { print $2, NF, NR }", "q 2 0\n")
	checkOut(t, "BEGIN { $3 = \"p\" } END { print $0 \"|\", NF }", "  p| 3\n")
	checkOut(t, "{ print NF; print $0 \"|\" }", "0\n|\n0\n  |\n1\n x|\n", "", "  ", " x")
}

// What fuel a run takes: 1 for each expression and statement that is begun.
func TestFuelOfEach(t *testing.T) {
	cases := map[string]int{
		"": 0, "x": 2, "1": 2, `"a"`: 2, "/a/": 2, "$1": 3, "$$1": 4, "a[1]": 3, "a[a[1]]": 4, "NF": 2,
		// A place that something is given to is not begun, but its kid is.
		"x = 1": 3, "a[1] = 1": 4, "$1 = 1": 4, "$(1 + 1) = 1": 6, "x += 1": 3, "a[1] += 1": 4, "$x /= 1": 4, "NF = 1": 3, "$0 = 1": 4, "x = y = 1": 4, "a[b[1]] = 1": 5, "$$1 = 1": 5, "a[x = 1] = y": 5, "x = a[1]": 4,
		"x++": 2, "--x": 2, "++a[1]": 3, "a[1]--": 3, "$1++": 3, "++$(x + 1)": 5, "NF++": 2, "$x++": 3, "$(x++)": 3, "a[$1]++": 4,
		// Of three and of two only those that count are begun.
		"1 ? 2 : 3": 4, "0 ? 2 : 3 + 4": 6, "1 || 2": 3, "0 || 2": 4, "1 && 2": 4, "0 && 2": 3, "0 || 0 || 1": 6, "x && y || z": 5,
		"1 in a": 3, "x in a in b": 4, "1 < 2": 4, "1 2": 4, "1 + 2 * 3": 6, "!1": 3, "-1": 3, "- -1": 4, "!(1)": 3, "2 ^ -x": 5,
		// An ERe whose Text is wanted is not begun, each other one is.
		"x ~ /a/": 3, "x !~ /a/": 3, `x ~ "a"`: 4, "x ~ y": 4, "/a/ ~ /b/": 3, "/a/ ~ x": 4, "/a/ + /b/": 4, "/a/ (/b/)": 4, "x ~ (/a/ (/b/))": 6, "x ~ !/a/": 5, "x == /a/": 4, "x = /a/": 3, "/a/ ? /b/ : /c/": 4,
		"length()": 2, "length(x)": 3, "length(/a/)": 3, "substr(x, 1)": 4, "substr(x, 1, 2)": 5, "index(x, y)": 4, "index(x, /a/)": 4, "tolower(x)": 3, "toupper(/a/)": 3, "int(1)": 3, "sprintf(x)": 3, "sprintf(/a/, 1, 2)": 5, "sprintf(x, 1, 2, 3, 4, 5, 6, 7)": 10,
		"match(x, /a/)": 3, `match(x, "a")`: 4, "match(/a/, /b/)": 3,
		// An array's name is not begun.
		"split(x, a)": 3, "split(x, a, /b/)": 3, `split(x, a, "b")`: 4, "split(/a/, a)": 3, "split(/a/, a, /b/)": 3,
		"sub(/a/, x)": 3, `sub("a", x)`: 4, "sub(/a/, /b/)": 3, "gsub(/a/, x)": 3, "sub(/a/, x, y)": 3, `gsub("a", x, y)`: 4, "sub(/a/, x, a[1])": 4, "sub(/a/, x, $1)": 4, "gsub(/a/, x, $(1 + 1))": 6, "sub(/a/, x, NF)": 3, "gsub(x = 1, y, a[/b/])": 6,
		"print": 1, "print 1": 2, "print 1, x, $1": 5, "print 1, 2, 3, 4, 5, 6, 7, 8": 9, `printf "a"`: 2, `printf "%s", x`: 3, "print /a/, /b/": 3, "printf /a/": 2, "print(1)": 2, "print x = 1": 3,
		"if (1) x": 5, "if (0) x": 2, "if (0) x; else { }": 3, "if (1) { } else x": 3, "if (x) { } else if (y) { } else { }": 6, "if (1) { if (1) { } }": 6,
		"while (0) { }": 2, "while (i++ < 2) { }": 12, "while (i++ < 2) x": 16, "while (i < 1) { i++ }": 10,
		"for (k in a) { }": 1, "a[1]; a[2]; for (k in a) { }": 9, "a[1]; for (k in a) print k": 7, "a[1]; a[2]; for (k in a) for (l in a) { }": 15,
		"next": 1, "exit": 1, "next; x": 1, "x; exit; y": 3, "delete a[1]": 2, "delete a[x y]": 4, "{ }": 1, "{ { } { } }": 3, "{ x } y": 5,
	}
	for s, want := range cases {
		for _, c := range []struct {
			head string
			more int
		}{{"BEGIN", 1}, {"END", 1}, {"", 1}, {"1", 2}, {"/a/", 2}, {"$1 ~ /a/", 4}, {"END", 1}} {
			p := mustProg(t, c.head+" { "+s+" }")
			if got := checkFuels(t, p, []string{"a"}, 60); got != want+c.more {
				t.Errorf("%s { %s } takes %d, not %d", c.head, s, got, want+c.more)
			}
			if trace := impl.Trace(p, []string{"a"}, want+c.more); !slices.Equal(trace, []int{1}) {
				t.Errorf("%s { %s }: %v", c.head, s, trace)
			}
			if r := impl.Run(p, []string{"a"}, want+c.more-1); r.Code != impl.RunFuel {
				t.Errorf("%s { %s }: %v", c.head, s, r)
			}
		}
	}
}

// Fuel of 0 is enough where nothing is begun; each line takes its own.
func TestFuelOfRules(t *testing.T) {
	cases := []struct {
		s     string
		lines int
		want  int
	}{
		{"{ print }", 0, 0}, {"1", 0, 0}, {"/a/ { x } { y }", 0, 0}, {"BEGIN { }", 0, 1}, {"END { }", 0, 1}, {"{ }", 1, 1}, {"{ }", 7, 7}, {"1", 4, 12}, {"0", 4, 4}, {"{ } { } 0", 3, 9}, {"BEGIN { } { x } END { y }", 2, 10}, {"NR == 2 { exit } { }", 9, 9}, {"{ next } { x } { y }", 5, 10}, {"BEGIN { exit } { x } END { }", 5, 3}, {"BEGIN { next } BEGIN { x } { }", 2, 4}, {"END { next } END { x }", 3, 2}, {"{ } 0 { x }", 100, 200},
	}
	for _, c := range cases {
		if got := checkFuels(t, mustProg(t, c.s), slices.Repeat([]string{"a"}, c.lines), 3000); got != c.want {
			t.Errorf("%s takes %d, not %d", c.s, got, c.want)
		}
	}
	// Where fuel ends, what was put out till then stands beside the code.
	p := mustProg(t, "BEGIN { print 1; print 2 } { print } END { print 3 }")
	outs := []string{"", "", "", "1\n", "1\n", "1\n2\n", "1\n2\n", "1\n2\na\n", "1\n2\na\n", "1\n2\na\nb\n", "1\n2\na\nb\n", "1\n2\na\nb\n", "1\n2\na\nb\n3\n"}
	begun := [][]int{{0, 0, 0}, {1, 0, 0}, {1, 0, 0}, {1, 0, 0}, {1, 0, 0}, {1, 0, 0}, {1, 1, 0}, {1, 1, 0}, {1, 2, 0}, {1, 2, 0}, {1, 2, 1}, {1, 2, 1}, {1, 2, 1}}
	for fuel, out := range outs {
		code := impl.RunFuel
		if fuel == len(outs)-1 {
			code = impl.RunOk
		}
		if r := impl.Run(p, []string{"a", "b"}, fuel); r.Code != code || r.Out != out {
			t.Errorf("%d: %v", fuel, r)
		}
		if trace := impl.Trace(p, []string{"a", "b"}, fuel); !slices.Equal(trace, begun[fuel]) {
			t.Errorf("%d: %v", fuel, trace)
		}
	}
	// MaxFuel met exactly, and passed by one.
	for s, code := range map[string]int{"BEGIN { x; print; while (i++ < 24998) { } }": impl.RunOk, "BEGIN { x; print; print; while (i++ < 24998) { } }": impl.RunFuel} {
		if r := checkRun(t, mustProg(t, s), nil, impl.MaxFuel); r.Code != code {
			t.Errorf("%s: %d", s, r.Code)
		}
		if r := checkRun(t, mustProg(t, s), nil, impl.MaxFuel-1); r.Code != impl.RunFuel {
			t.Errorf("%s: %d", s, r.Code)
		}
	}
}

// Kids are reckoned in their order, and a place is read when all of them are.
func TestOrderOfKids(t *testing.T) {
	one, two, three := `(s = s "1")`, `(s = s "2")`, `(s = s "3")`
	for form, want := range map[string]string{
		"A + B": "12", "A - B": "12", "A * B": "12", "A / B": "12", "A % B": "12", "A ^ (B * 0)": "12", "A B": "12", "A < B": "12", "A == B": "12", "A ~ B": "12", "A !~ B": "12", "A in q": "1", "-A": "1", "!A": "1", "$(A * 0)": "1", "q[A]": "1", "q[A] = B": "12", "q[A] += B": "12", "$(A * 0) = B": "12", "x = A": "1", "x *= A": "1", "q[A]++": "1", "--q[A]": "1", "++$(A * 0)": "1",
		"A ? B : C": "12", "!A ? B : C": "13", "A || B": "1", "!A || B": "12", "A && B": "12", "!A && B": "1",
		"length(A)": "1", "substr(A, B)": "12", "substr(A, B, C)": "123", "index(A, B)": "12", "tolower(A)": "1", "toupper(A)": "1", "int(A)": "1", "split(A, q)": "1", "split(A, q, B)": "12", "sub(A, B)": "12", "sub(A, B, q[C])": "123", "gsub(A, B, $(C * 0))": "123", "gsub(/x/, B, q[C])": "23", "match(A, B)": "12", "sprintf(A)": "1", "sprintf(A, B, C)": "123",
		"print A, B, C": "1 12 123\n123", "printf A, B": "112", "delete q[A]": "1", "if (A) B; else C": "12", "if (!A) B; else C": "13",
	} {
		s := strings.NewReplacer("A", one, "B", two, "C", three).Replace(form)
		checkBegin(t, s+"; printf s", want)
	}
	for s, want := range map[string]string{
		"x = 1; x += (x = 5); print x": "10\n", "x = 1; x += x++; print x": "3\n", "x = 3; x -= x = 1; print x": "0\n", "x = 2; print x++ x++, x": "23 4\n", "i = 3; print i++ + ++i, i": "8 5\n", "i = 5; print i-- - --i, i": "2 3\n",
		// A kid is told once, ahead of what changes it.
		"i = 1; a[i] = i++; for (k in a) print k, a[k]": "1 1\n", "i = 1; a[i++] = i; for (k in a) print k, a[k]": "1 2\n", "i = 1; a[i++] += i++; for (k in a) print k, a[k], i": "1 2 3\n", "i = 1; a[i++]++; for (k in a) print k, a[k], i": "1 1 2\n", "i = 1; $i = i = 3; print $0, NF": "3 1\n",
		"$0 = \"a b c\"; $NF = (NF = 2); print": "a b 2\n", "$0 = \"a b c\"; $NF += (NF = 2); print; print NF": "a b 2\n3\n", "$(i = 2) = \"q\"; print NF, $0": "2  q\n", "x = \"a\"; x = x (x = \"b\") x; print x": "abb\n",
		// An element comes about when it is read, behind those of the kids.
		"a[1] += a[2]; for (k in a) print k": "2\n1\n", "a[1] = a[2]; for (k in a) print k": "2\n1\n", "a[a[1]] = a[2]; for (k in a) printf k \".\"": "1.2..", "a[1] = 5; a[1] += (split(\"\", a)); for (k in a) print k, a[k]": "1 0\n", "a[a[3]] a[4]; for (k in a) printf k \".\"": "3..4.", "sub(a[1], a[2], a[3]); for (k in a) print k": "1\n2\n3\n",
		// OFS, ORS and FS count as they are when all kids are told.
		"print \"a\", (OFS = \"-\"), \"b\"": "a---b\n", "print (ORS = \"!\")": "!!", "n = split(\"a,b\", q, FS = \",\"); print n": "2\n", "n = split(\"a,b\" (FS = \",\"), q); print n": "3\n", "$1 = (OFS = \"-\"); $2 = 1; print": "--1\n", "$0 = (FS = \",\") \"a\"; print NF, $2": "2 a\n", "print length(), $0 = \"abc\", length()": "0 abc 3\n", "$0 = \"ab\"; print sub(/a/, $0 = \"ca\"), $0": "1 cca\n", "$0 = \"x\"; print $0, ($0 = \"y\"), $0": "x y y\n", "print NR, NR = 5, NR": "0 5 5\n",
	} {
		checkBegin(t, s, want)
	}
}

func TestRunOfExpressions(t *testing.T) {
	for s, want := range map[string]string{
		"print 1, 1.50, 0.000001, 1000000, 123456.78": "1 1.5 0.000001 1000000 123456.78\n", "print 1 / 3, 2 / 3, 7 % 4, -7 % 4, 7.5 % 2": "0.333333 0.666666 3 -3 1.5\n", "print 2 ^ 3, 2 ^ 0, 0 ^ 0, -2 ^ 2, (-2) ^ 3": "8 1 1 -4 -8\n", "print 1 + 2, 1 - 2, 1.5 * 2, 5 / 2": "3 -1 3 2.5\n", "print \"3x\" + \" 4 \", \"x\" + 1, \".5.5\" + 1, u + 1, \"\" + 0, \"-2\" * 3": "7 1 1.5 1 0 -6\n", "print -\"3x\", -u, - -2, -0, -(-0.5)": "-3 0 2 0 0.5\n", "print !1, !0, !\"\", !\"0\", !u, !!\"a\"": "0 1 1 0 1 1\n",
		"print 1 2, 1.50 \"\", -1 \"\", \"a\" u \"b\", 1 -1": "12 1.5 -1 ab 0\n", "print \"\\\"\\\\\\t\\000\\377\"": "\"\\\t\x00\xff\n",
		// Texts, numbers, what nothing was given to, and what a line has.
		"print (10 < 9), (\"10\" < \"9\"), (10 < \"9\"), (\"a\" < 1), (2 < \"10\")": "0 1 1 0 0\n", "print (u == 0), (u == \"\"), (u < 1), (\"\" < 0), (u == v), (u < \"a\")": "1 1 1 1 1 1\n", "$0 = \"10 9 9.0 x\"; print ($1 < $2), ($2 == $3), ($1 < \"9\"), ($4 < $1), ($5 == 0), ($5 == \"\"), ($3 == 9), ($3 == \"9\")": "0 1 1 0 1 1 1 0\n", "print (1 < 1), (1 <= 1), (1 == 1), (1 != 1), (1 > 1), (1 >= 1)": "0 1 1 0 0 1\n", "print (1 < 2), (1 <= 2), (1 == 2), (1 != 2), (1 > 2), (1 >= 2)": "1 1 0 1 0 0\n", "print (\"b\" < \"a\"), (\"b\" <= \"a\"), (\"b\" == \"a\"), (\"b\" != \"a\"), (\"b\" > \"a\"), (\"b\" >= \"a\")": "0 0 0 1 1 1\n",
		"print 1 ? 2 : 3, 0 ? 2 : 3, \"\" ? 2 : 3, \"0\" ? 2 : 3, u ? 2 : 3": "2 3 3 2 3\n", "$0 = \"0 00 0x\"; print $1 ? 2 : 3, $2 ? 2 : 3, $3 ? 2 : 3, $4 ? 2 : 3": "3 3 2 3\n", "print 0 || 4, 0 || 0, 5 || 0, 1 && 0, 2 && 3, 0 && 1, \"a\" || u, u && \"a\"": "1 0 1 0 1 0 1 0\n", "0 || (x = 1); 1 || (y = 1); 0 && (z = 1); 1 && (v = 1); print x, y, z, v": "1   1\n", "print (1 ? x = 5 : (y = 6)), x, y": "5 5 \n", "print 1 ? \"10\" : 2, (1 ? \"10\" : 2) < 9, (0 || \"10\") < 9": "10 1 1\n",
		// What an ERe is alone, and as an expression for texts.
		"print /a/; $0 = \"xay\"; print /a/, /^a/, !/a/, /a/ + 1, /b/ \"\"": "0\n1 0 0 2 0\n", "$0 = \"a\"; x = /a/; print x, (x == 1), /a/ ~ /1/, /a/ ~ 1, \"1\" ~ (/a/), /b/ ~ 0": "1 1 1 1 0 1\n", "print \"abc\" ~ /b/, \"abc\" ~ \"^b\", \"abc\" !~ /b/, \"abc\" !~ \"^b\", \"a.c\" ~ \"a\\\\.c\", \"abc\" ~ \"a\\\\.c\"": "1 0 0 1 1 0\n", "print 10 ~ 0, 10 ~ 2, u ~ u, u ~ /^$/, \"a\" ~ u, \"a\" !~ u": "1 0 1 1 1 0\n", "$0 = \"b\"; x = \"b\"; print x ~ !/b/, x ~ /b/ (/b/), 11 ~ /b/ (/b/), x ~ (/b/)": "0 0 1 1\n",
		"print (1 in a), (u in a); a[1]; a[u]; print (1 in a), (1.0 in a), (\"1\" in a), (\"01\" in a), (u in a), (\"\" in a), (0 in a), (1 in a in a)": "0 0\n1 1 1 0 1 1 0 1\n",
		"print x = 3, x; print (x = y = 4) + 1, x, y": "3 3\n5 4 4\n", "x = \"a\"; y = x; x = 1; print x, y": "1 a\n",
		"print;": "\n", "print \"\"": "\n", "print \"a\" \"b\", \"c\"": "ab c\n", "print 1, 2, 3, 4, 5, 6, 7, 8": "1 2 3 4 5 6 7 8\n", "print u, u": " \n", "print(1)(2)": "12\n", "print \"a\\nb\"": "a\nb\n",
	} {
		checkBegin(t, s, want)
	}
}

func TestRunOfStatements(t *testing.T) {
	cases := map[string]string{
		"if (1) print 1; print 2": "1\n2\n", "if (0) print 1; print 2": "2\n", "if (0) print 1; else print 3; print 2": "3\n2\n", "if (u) print 1; else if (\"a\") print 2; else print 3": "2\n", "if (1) { print 1; print 2 } else print 3": "1\n2\n", "if (\"0\") print 1; if (\"\") print 2; if (0.000001) print 3": "1\n3\n",
		"while (i < 3) { i++; t = t i } print t": "123\n", "while (i++ < 3) print i": "1\n2\n3\n", "while (0) print 1; print 2": "2\n", "while (i++ < 2) { j = 0; while (j++ < 2) print i j }": "11\n12\n21\n22\n", "while (x != \"aaa\") x = x \"a\"; print x": "aaa\n",
		"{ print 1; { print 2 } { } } print 3": "1\n2\n3\n", "1; \"a\"; u; print 1": "1\n",
		"for (k in a) print 1; print 2 k \"|\"": "2|\n", "k = 7; for (k in a) { } print k": "7\n", "a[2]; a[1]; a[\"x\"]; for (k in a) print k": "2\n1\nx\n", "a[1]; for (k in a) print (k == 1), (k == \"1\"), (k < 5), k + 1": "1 1 1 2\n", "a[10]; for (k in a) print (k < 9), (k > 9)": "1 0\n", "a[1]; a[2]; for (k in a) k = k \"x\"; print k": "2x\n", "a[1]; a[2]; for (k in a) for (k in a) printf k; print k": "12122\n", "a[1]; a[2]; for (k in a) for (l in a) printf k l \" \"": "11 12 21 22 ",
		// It goes by the keys that the array has when it begins.
		"a[1]; a[2]; a[3]; for (k in a) { delete a[2]; printf k } for (k in a) printf k": "12313", "a[1]; a[2]; for (k in a) { delete a[1]; delete a[2]; printf k (k in a) }": "1020", "a[1]; a[2]; for (k in a) { a[k + 2]; printf k } printf \" \"; for (k in a) printf k": "12 1234", "a[1]; a[2]; for (k in a) { split(\"x y z\", a); printf k } for (k in a) printf a[k]": "12xyz", "a[1]; a[2]; for (k in a) { delete a[k]; a[k]; printf k } for (k in a) printf k": "1212", "a[1]; a[2]; for (k in a) { delete a[1]; a[1]; printf k } for (k in a) printf k": "1221", "a[1]; for (k in a) { a[2]; for (k in a) printf k \".\"; printf k \"!\" }": "1.2.2!", "a[1]; a[2]; a[3]; for (k in a) { if (k == 2) a[4] = 1; printf k }": "123",
		"a[1] = 5; delete a[1]; print (1 in a), a[1] \"|\"": "0 |\n", "delete a[1]; delete a[1]; print (1 in a)": "0\n", "a[1]; a[2]; a[3]; delete a[2]; a[2]; for (k in a) printf k": "132", "a[1] = 1; a[2] = 2; delete a[\"1\"]; for (k in a) print k, a[k]": "2 2\n", "a[1]; delete a[a[2]]; for (k in a) printf k": "12", "a[1]; delete b[1]; print (1 in a)": "1\n", "a[u]; delete a[\"\"]; print (u in a)": "0\n",
	}
	for s, want := range cases {
		checkBegin(t, s, want)
	}
	checkOut(t, "{ for (k in a) print NR, k; a[$1]++ } END { for (k in a) print k, a[k] }", "2 x\n3 x\n3 y\nx 2\ny 1\n", "x", "y", "x")
}

func TestElementsComeAbout(t *testing.T) {
	// Each way to ask for an element; what stands behind it is whether it is there then.
	for s, is := range map[string]bool{
		"a[1]": true, "x = a[1]": true, "print a[1] \"\"": true, "a[1] == 0": true, "!a[1]": true, "length(a[1])": true, "a[1] = 1": true, "a[1] += 1": true, "a[1]++": true, "--a[1]": true, "sub(/x/, \"\", a[1])": true, "gsub(/x/, \"\", a[1])": true, "a[1] ~ /x/": true, "if (a[1]) x": true, "0 || a[1]": true, "print length(a[1])": true, "b[a[1]]": true, "delete b[a[1]]": true, "(a[1] in b)": true, "split(a[1], b)": true, "split(\"x\", a)": true, "split(\"1\", b, a[1])": true, "$a[1]": true, "for (k in b) x; a[1]": true,
		"1 in a": false, "delete a[1]": false, "0 && a[1]": false, "1 || a[1]": false, "1 ? x : a[1]": false, "for (k in a) a[1]": false, "a[2]": false, "b[1]": false, "split(\"\", a)": false, "a[1]; delete a[1]": false, "a[1]; split(\"\", a)": false, "if (0) a[1]": false, "while (0) a[1]": false, "(1 in a) || (1 in a)": false,
	} {
		p := mustProg(t, "BEGIN { "+s+"; printf \"|\" (1 in a) (1 in a) }")
		r := checkRun(t, p, nil, 1000)
		if want := map[bool]string{true: "|11", false: "|00"}[is]; r.Code != impl.RunOk || !strings.HasSuffix(r.Out, want) {
			t.Errorf("%s: %v", s, r)
		}
		checkFuels(t, p, nil, 100)
	}
	for s, want := range map[string]string{
		"a[3]; a[1]; a[2]; a[1] = 5; for (k in a) printf k": "312", "a[\"b\"] = a[\"c\"] a[\"a\"]; for (k in a) printf k": "cab", "a[1] = 1; a[\"1\"] = 2; a[1.0] = 3; a[01] = 4; for (k in a) print k, a[k]": "1 4\n", "a[-1] = 1; a[- 0] = 2; a[1000000] = 3; a[0.10] = 4; for (k in a) print k, a[k]": "-1 1\n0 2\n1000000 3\n0.1 4\n", "a[u] = 1; print a[\"\"], (0 in a)": "1 0\n", "$0 = \"01 1 1.0\"; a[$1]; a[$2]; a[$3]; a[$4]; for (k in a) printf k \"|\"": "01|1|1.0||", "a[\"x\"] = 1; b[\"x\"] = 2; print a[\"x\"], b[\"x\"]": "1 2\n", "a[1] = u; print (a[1] == 0), (a[1] == \"\")": "1 1\n", "a[\"\\000\\n\"] = 1; for (k in a) print length(k)": "2\n", "a[/x/]; a[!u]; for (k in a) printf k": "01",
	} {
		checkBegin(t, s, want)
	}
}

// Each sign of ESet, EPre and EPost with each place.
func TestSetsAndSteps(t *testing.T) {
	// Each place begins as 7, and says itself behind the value.
	places := []struct{ begin, place, head, tail string }{
		{"x = 7", "x", "", ""}, {"x = \"7up\"", "x", "", ""}, {"a[\"k\"] = 7", "a[\"k\"]", "", ""}, {"$0 = \"p 7 q\"", "$2", "p ", " q"}, {"$0 = \"p 7 q\"", "$(1 + 1)", "p ", " q"}, {"$0 = 7", "$0", "", ""}, {"$0 = \"1 2 3 4 5 6 7\"", "NF", "", ""}, {"NR = 7", "NR", "", ""}, {"OFS = 7", "OFS", "", ""}, {"ORS = \"7\"", "ORS", "", ""}, {"FS = 7", "FS", "", ""}, {"RSTART = 7", "RSTART", "", ""}, {"RLENGTH = 7", "RLENGTH", "", ""},
	}
	forms := []struct{ form, value, after string }{
		{"P = 2", "2", "2"}, {"P += 2", "9", "9"}, {"P -= 2", "5", "5"}, {"P *= 2", "14", "14"}, {"P /= 2", "3.5", "3.5"}, {"P %= 2", "1", "1"}, {"P = \"2\"", "2", "2"}, {"P += \"2x\"", "9", "9"}, {"P += u", "7", "7"}, {"++P", "8", "8"}, {"--P", "6", "6"}, {"P++", "7", "8"}, {"P--", "7", "6"}, {"P -= P", "0", "0"}, {"P = P++", "7", "7"}, {"P += ++P", "16", "16"},
	}
	for _, place := range places {
		for _, c := range forms {
			s := place.begin + "; v = (" + strings.ReplaceAll(c.form, "P", place.place) + "); printf \"%s|%s\", v, " + place.place
			after := c.after
			if place.place == "NF" {
				after, _, _ = strings.Cut(after, ".")
			}
			checkBegin(t, s, c.value+"|"+after)
			if place.place[0] == '$' {
				checkBegin(t, s+"; printf \"|%s|\", $0", c.value+"|"+after+"|"+place.head+after+place.tail+"|")
			}
		}
	}
	for s, want := range map[string]string{
		// What nothing was given to counts as 0.
		"print x++, x, --y, y, z += 2, v -= 2, w *= 2": "0 1 -1 -1 2 -2 0\n", "print a[1]++, a[1], --a[2], a[2]": "0 1 -1 -1\n", "x = \"abc\"; print x++, x": "0 1\n", "x = \" 3 \"; print x++, ++x": "3 5\n", "x = 1.5; print x++, x--, x": "1.5 2.5 1.5\n", "$3++; print; print NF": "  1\n3\n", "x = \"a\"; print (x++ == \"\"), (x == 1)": "0 1\n", "$0 = \"a\"; print $1++, $0, $0++, $0": "0 1 1 2\n",
		// The value is what was given, as it was.
		"print ((x = \"10\") < 9), ((x = 10) < 9), (($1 = \"10\") < 9), (($1 = 10) < 9), ($1 < 9)": "1 0 1 0 0\n", "print (NF = 2.7), NF, (NF = \"3x\"), NF": "2.7 2 3x 3\n", "$0 = \"10\"; x = $1; print (x < 9), (x < \"9\")": "0 1\n", "x = $1; print (x == 0), (x == \"\")": "1 1\n", "$1 = u; print NF, (($1 = u) == 0), ($1 == 0), ($1 == \"\")": "1 1 0 1\n",
	} {
		checkBegin(t, s, want)
	}
}

func TestVariablesOfTheLine(t *testing.T) {
	for s, want := range map[string]string{
		"BEGIN { print NF, NR, FS \"|\" OFS \"|\" ORS \"|\" RSTART \"|\" RLENGTH \"|\" }": "0 0  | |\n|||\n",
		"{ print NF, NR } END { print NF, NR }":                                           "3 1\n2 2\n2 2\n",
		// NF: fields behind are left out, or come, and the Line is put together by OFS.
		"{ NF = 1; print $0 \"|\" $2 \"|\" NF }": "a||1\nd||1\n", "{ NF = 4; print $0 \"|\" NF }": "a b c |4\nd e  |4\n", "BEGIN { OFS = \"-\" } { NF = NF; print; NF = 0; print $0 NF }": "a-b-c\n0\nd-e\n0\n", "{ NF--; print }": "a b\nd\n", "{ NF += 1; print $0 \"|\" }": "a b c |\nd e |\n", "BEGIN { NF = 2; print $0 \"|\" NF; NF = -0.9; print NF }": " |2\n0\n", "{ a[2]; for (NF in a) print }": "a b\nd e\n", "{ sub(/./, 1, NF); print; print NF }": "a\n1\nd\n1\n", "{ print gsub(/x/, \"y\", NF), $0 }": "0 a b  c\n0 d e\n",
		// FS: by that of then is the next line put into fields, or what $0 is given.
		"{ FS = \"e\"; print $1 }": "a\nd \n", "BEGIN { FS = \"\" } { print $2 $3, NF }": " b 6\n e 3\n", "BEGIN { FS = \" +\" } { print NF, $3 }": "3 c\n2 \n", "BEGIN { FS = \"((\" } { print NF }": "1\n1\n", "BEGIN { FS = \"b|e\" } { print $1 \".\" $2 }": "a .  c\nd .\n", "{ FS = \"b\"; print $2; $0 = $0; print $2 \".\" }": "b\n  c.\n\n.\n", "{ FS = \"e\"; $3 = \"be\"; print NF, $0 }": "3 a b be\n3 d   be\n", "BEGIN { FS = 1; $0 = \"a1b\"; print $2 }": "b\n", "BEGIN { FS = u; $0 = \"ab\"; print $2 }": "b\n",
		// OFS and ORS.
		"BEGIN { OFS = \"-\"; ORS = \"!\" } { print $1, $2; print }": "a-b!a b  c!d-e!d e!", "BEGIN { OFS = \"-\" } { $1 = $1; print }": "a-b-c\nd-e\n", "{ OFS = NR; $1 = \"x\"; print $1, $2 }": "x1b\nx2e\n", "BEGIN { ORS = OFS = \"\" } { print 1, NR }": "1112", "BEGIN { OFS = u } { print 1, $1 }": "1a\n1d\n", "BEGIN { ORS = 5; print 1 }": "15",
		// NR is one more with each line, whatever it was given.
		"BEGIN { NR = 10 } { print NR } END { print NR }": "11\n12\n12\n", "{ NR = NR * 3; print NR }": "3\n12\n", "BEGIN { NR = \"5x\" } { print NR, (NR == 6) }": "6 1\n7 0\n", "BEGIN { NR = \"x\" } { print NR }": "1\n2\n", "BEGIN { NR = -1.5 } { print NR }": "-0.5\n0.5\n", "BEGIN { NR = 999998 } { print NR }": "999999\n1000000\n", "{ print NR; NR = u }": "1\n1\n", "BEGIN { a[5]; for (NR in a) { } print NR, (NR < 10); exit }": "5 0\n",
		// RSTART and RLENGTH.
		"{ RSTART = 9; print RSTART, match($0, /b/), RSTART, RLENGTH }": "9 3 3 1\n9 0 0 -1\n",
		// Fields: beyond the last one, field 0, fractions.
		"{ print $3 \"|\" $4 \"|\" ($4 == 0) ($4 == \"\") \"|\" NF }": "c||11|3\n||11|2\n", "{ $5 = \"q\"; print; print NF }": "a b c  q\n5\nd e   q\n5\n", "{ print $0; $0 = \"p  q\"; print $2, NF; $1 = 5; print }": "a b  c\nq 2\n5 q\nd e\nq 2\n5 q\n", "{ print $(-0.5); print $1.9, $(-0.999999), $\"2x\" }": "a b  c\na a b  c b\nd e\nd d e e\n", "{ print $60 \"|\"; $60 = 1; print NF, length() }": "|\n60 63\n|\n60 62\n", "{ $2 = \"\"; print; print NF }": "a  c\n3\nd \n2\n", "{ $1 = \"x y\"; print NF, $1; $0 = $0; print NF, $1 }": "3 x y\n4 x\n2 x y\n3 x\n", "{ $0 = \"\"; print NF \"|\" $0 \"|\" $1 \"|\" }": "0|||\n0|||\n", "{ $NF = \"z\"; print; print $NF }": "a b z\nz\nd z\nz\n", "{ $(NF + 2) = NF; print }": "a b c  3\nd e  2\n", "$0 = 7\n{ print ($0 < 10), ($1 < 10) }": "7\n1 1\n7\n1 1\n",
	} {
		checkOut(t, s, want, "a b  c", "d e")
	}
	checkOut(t, "BEGIN { print (RSTART == \"\"), (RLENGTH == 0), (FS == \" \"), (NR == 0), (NR == \"0\"), (NR == \"\") }", "1 1 1 1 1 0\n")
	// A line's texts that may be numbers are compared as such.
	checkOut(t, "{ print ($1 < $2), ($0 < 5) }", "0 1\n0 0\n1 1\n", "10 9", "x 9x", "2 10")
	// What has more than MaxFields fields has its first ones.
	checkOut(t, "{ print NF, $60; $1 = \"b\"; print length() }", "60 a\n119\n", strings.Repeat("a ", 100))
}

func TestCalls(t *testing.T) {
	for s, want := range map[string]string{
		`print length("abc"), length(""), length(u), length(12.50), length("a" "b")`: "3 0 0 4 2\n", `$0 = "a b  c"; print length(), length($2), length($9)`: "6 1 0\n", "print length(/a/)": "1\n",
		`print substr("hello", 2), substr("hello", 1), substr("hello", 5), substr("hello", 6) "|", substr("hello", 0), substr("hello", -3)`: "ello hello o | hello hello\n", `print substr("hello", 2, 3), substr("hello", 1, 99), substr("hello", 2, 0) "|", substr("hello", 2, -1) "|", substr("hello", 0, 2), substr("hello", -1, 3), substr("hello", -1, 2) "|", substr("hello", 4, 9)`: "ell hello | | h h | lo\n", `print substr("hello", 2.9), substr("hello", 2, 1.9), substr("hello", -0.5, 1.5) "|", substr("hello", "2x", "2y"), substr("hello", u), substr("hello", -1.9, 3)`: "ello e | el hello h\n", `print substr(12345, 2, 3) + 1, (substr("10", 1) < 9), substr("hello", -1000000), substr("hello", 1000000) "|", substr("hello", -1000000, 1000000) "|", substr("", 1, 5) "|"`: "235 1 hello | | |\n", `print substr("\303\244", 2) == "\244"`: "1\n",
		`print index("abc", "c"), index("abc", "bc"), index("abc", "d"), index("abc", ""), index("", ""), index("", "a"), index(1213, 21), index("aXbX", "X")`: "3 2 0 1 0 0 2 2\n", `$0 = "x"; print index("a1", /x/)`: "2\n",
		`print tolower("aBC1\303"), toupper("aBc1\344"), tolower(u) "|", toupper(1.5), (toupper("10") < 9)`: "abc1\xc3 ABC1\xe4 | 1.5 1\n",
		`print int(3.7), int(-3.7), int("12.9abc"), int("x"), int(u), int(5), int(-0.5), (int("10") < 9)`:   "3 -3 12 0 0 5 0 0\n",
		// split: its array loses what it had.
		`print split("a b  c", q), q[1] q[2] q[3], (4 in q), (0 in q)`: "3 abc 0 0\n", `q["z"] = 1; q[1] = 9; q[5] = 9; print split("x,y", q, ","); for (k in q) print k, q[k]`: "2\n1 x\n2 y\n", `q[1]; print split("", q), (1 in q), split("", q, ",")`: "0 0 0\n", `FS = ","; print split("a b,c", q), q[1], split("a b,c", p, " "), p[1]`: "2 a b 2 a\n", `print split("a1b22c", q, /[0-9]+/), q[3], split("a1b22c", p, "[0-9]+"), p[3]`: "3 c 3 c\n", `print split("abc", r, ""), r[2], split("a.b", s, "."), s[2], split("a.b", v, /./), v[2]`: "3 b 2 b 2 b\n", `print split(" a  b ", q, " "), split(" a  b ", q, / /), split(" a  b ", q, "[ ]"), split("a", q, //), split("ab", q, //)`: "2 2 5 1 2\n", `print split("a(b", q, "(("), q[1], split("a(b", q, "("), q[2], split("axb", q, 1), split("a1b", q, 1)`: "1 a(b 2 b 1 2\n", `print split("10 9 x", q); print (q[1] < q[2]), (q[2] < q[3]), (q[1] < "9")`: "3\n0 1 1\n", `q[1] = ","; print split("a,b", q, q[1]), q[2], split(q[1] "b", q, q[2]), q[1] "|"`: "2 b 2 a|\n", `x = split("a b", q); delete q[1]; for (k in q) print k, x`: "2 2\n", `print split(12.50, q, "."), q[2] + 1`: "2 6\n",
		// sub and gsub: of a variable, an element, a field and the Line.
		`x = "banana"; print gsub(/a/, "[&]", x), x; print sub("n", "N", x), x`: "3 b[a]n[a]n[a]\n1 b[a]N[a]n[a]\n", `x = "aaa"; print sub(/a/, "b", x), x, gsub(/a/, "c", x), x, sub(/z/, "y", x), x, gsub(/z/, "y", x), x`: "1 baa 2 bcc 0 bcc 0 bcc\n", `a["k"] = "foo"; print gsub(/o/, "0", a["k"]), a["k"], sub(/z/, "", a["n"]), ("n" in a), sub(/^/, "q", a["m"]), a["m"]`: "2 f00 0 1 1 q\n", `$0 = "a b  a"; print gsub(/a/, "x y", $3), $0, NF; print sub(/b/, "", $2), $0 "|", NF`: "1 a b x y 3\n1 a  x y| 3\n", `$0 = "a b  a"; print sub(/z/, "y", $1), $0, gsub(/a/, "x y"), $0, NF, sub(/x/, ""), $1`: "0 a b  a 2 x y b  x y 5 1 y\n", `$0 = "abc"; print sub(/b/, "<&\\&\\\\>"), $0`: "1 a<b&\\>c\n", `OFS = "-"; $0 = "a b  c"; sub(/b/, "q", $2); print; sub(/z/, "", $9); print NF; sub(/^/, "z", $4); print NF, $0`: "a-q-c\n3\n4-a-q-c-z\n", `x = 10; print sub(/z/, "", x), (x < 9), sub(/0/, "1", x), (x < 9)`: "0 0 1 1\n", `x = 105; print gsub(0, "", x), x + 1, gsub(u, "-", x), x, sub("5", 7, x), x`: "1 16 3 -1-5- 1 -1-7-\n", `x = "aa"; print sub(/a/, x = "b", x), x`: "0 b\n",
		`x = "ab"; y = gsub(/x*/, "-", x); print y, x`: "3 -a-b-\n", `$0 = "q a"; FS = "q"; print sub(/a/, "b"), $1 "|" $2`: "1 | b\n", `$0 = "a b"; $3 = "c"; sub(/b/, "B"); print NF, $0`: "3 a B c\n", `NR = 12; sub(/1/, "3", NR); print NR + 1, (NR < 4)`: "33 1\n",
		// match, with a find and without.
		`print match("xabb", "ab*"), RSTART, RLENGTH; print match("xabb", /z/), RSTART, RLENGTH; print match("xabb", /$/), RSTART, RLENGTH; print match("", //), RSTART, RLENGTH`: "2 2 3\n0 0 -1\n5 5 0\n1 1 0\n", `print match("aXbX", "X"), RSTART + RLENGTH, match(1213, 2), match(u, "^$"), match("abc", u), RLENGTH, (match("b", /b/) == 1)`: "2 3 2 1 1 0 1\n", `$0 = "1"; print match("ab", /b/), match(/1/, /1/), RSTART`: "2 1 1\n",
		`print sprintf("a"), sprintf("%s-%d", "x", 3.7), sprintf("%5.2f|%-3s|%03d", 2.345, "ab", 7), sprintf("%c%c", 65, "xyz"), sprintf("%x %o %%", 255, 8)`: "a x-3  2.34|ab |007 Ax ff 10 %\n", `print sprintf("%d %s|", "12abc"), sprintf(10) + 1, (sprintf("10") < 9), sprintf("")`: "12 | 11 1 \n", `print sprintf("%s%s%s%s%s%s%s", 1, 2, 3, 4, 5, 6, 7), sprintf("a", 1), sprintf(/a/), sprintf(u) "|"`: "1234567 a 0 |\n",
		`printf "%s:%03d", "k", 7; printf "x"; printf "%%\n"; printf u; printf 12; printf "%s %s|", 1`: "k:007x%\n121 |", `OFS = "-"; ORS = "!"; printf "%s%s", 1, 2; printf "%d%d%d%d%d%d%d", 1, 2, 3, 4, 5, 6, 7`: "121234567",
	} {
		checkBegin(t, s, want)
	}
	// More than MaxFields parts are cut off.
	checkBegin(t, `while (i++ < 70) x = x "a,"; print split(x, q, ","), (60 in q), (61 in q), split(x, q, ""), (61 in q), q[60]`, "60 1 0 60 0 ,\n")
}

func TestRunNumOfEach(t *testing.T) {
	checkStops(t, impl.RunNum, "1 / 0", "1 % 0", "x = 1 / u", "x = 1 % \"a\"", "0 / 0", "x /= 0", "x %= 0", "a[1] /= a[2]", "$1 /= 0", "$0 %= 0", "NF /= 0", "1 / (1 - 1)", "print 1 / 0", "printf \"a\", 1 / 0", "if (1 / 0) x", "while (1 / 0) x", "delete a[1 / 0]", "a[1 / 0]", "a[1 / 0] = 1", "$(1 / 0)", "(1 / 0) in a", "length(1 / 0)", "!(1 / 0)", "-(1 / 0)", "1 ? 1 / 0 : 2", "0 || 1 / 0",
		"1000000 + 0.000001", "1000000 + 1", "-1000000 - 0.000001", "x = 1000000; x++", "x = 1000000; ++x", "x = -1000000; x--", "x = -1000000; --x", "x = 1000000; x += 1", "x = -1000000; x -= 1", "1000 * 1000.1", "1000000 / 0.5", "1000000 * 1000000", "x = 1001; x *= 1000", "x = 1; x /= 0.000000", "10 ^ 7", "-10 ^ 7", "1000 ^ 40", "\"1000000\" + \"1\"", "x = 999999; x = x * x",
		"2 ^ 0.5", "2 ^ -1", "1 ^ 41", "0 ^ 41", "2 ^ 1000000", "2 ^ -0.000001", "0 ^ -1")
	for s, want := range map[string]string{
		"print 1000000 + 0, 999999.999999 + 0.000001, -1000000 + 0, 999999 + 1": "1000000 1000000 -1000000 1000000\n", "print 1000 * 1000, 1000000 / 1, 0.000001 / 2, 0 / 5": "1000000 1000000 0 0\n", "print 10 ^ 6, -10 ^ 6, 1 ^ 40, 0.5 ^ 40": "1000000 -1000000 1 0\n", "x = 999999; print x++, x; x = -999999; print x--, x": "999999 1000000\n-999999 -1000000\n", "x = 1 ? 2 : 1 / 0; y = 1 || 1 / 0; z = 0 && 1 / 0; print x, y, z": "2 1 0\n",
	} {
		checkBegin(t, s, want)
	}
	// What a text has that is too great is no number, which counts as 0.
	checkBegin(t, "print \"1000001\" + 1, -\"1000000.5\", \"1000000.0000001\" + 0", "1 0 1000000\n")
	// NR is one more by Add.
	checkEnd(t, "BEGIN { NR = 999999 } { print NR } END { print 1 }", impl.RunNum, "1000000\n", "a", "b", "c")
	checkEnd(t, "BEGIN { NR = 999999.5; print 1 } { print NR }", impl.RunNum, "1\n", "a")
	checkOut(t, "BEGIN { NR = 1000000 } END { print NR }", "1000000\n")
}

func TestRunReOfEach(t *testing.T) {
	checkStops(t, impl.RunRe, `x ~ "("`, `x !~ "("`, `"a" ~ "*"`, `x ~ "a**"`, `y = "["; x ~ y`, `sub("(", "x")`, `gsub("(", "x")`, `sub("a{", "x", y)`, `gsub("\\", "x", a[1])`, `sub(")" , "x", $1)`, `match("a", "(")`, `match("a", "[b-a]")`, `print "a" ~ "("`, `if ("" ~ "?") x`, `while (x ~ "+") y`, `x ~ ("(" "a")`, `sub("(", 1 ? 2 : 3, NF)`)
	// An ERe is always right, and split takes what is no expression.
	checkBegin(t, `print "(" ~ /\(/, split("a(b", q, "(("), split("x", q, "*a"), 0 && x ~ "("; FS = "(("; $0 = "a b"; print NF`, "1 1 1 0\n1\n")
	// All kids are told ahead, and RunFull counts ahead of it.
	checkStops(t, impl.RunNum, `x ~ "(" / 0`, `(1 / 0) ~ "("`, `sub("(", 1 / 0)`, `sub("(", "", $(1 / 0))`, `match(1 / 0, "(")`)
	checkStops(t, impl.RunFull, `sub("(", "", $61)`, `gsub("(", "", $(-1))`, `$61 ~ "("`, `while (i < 200) a[i++]; sub("(", "", a["x"])`)
}

func TestRunFullOfEach(t *testing.T) {
	// A field that is none.
	checkStops(t, impl.RunFull, "$61", "$(-1)", "$1000000", "$(-1000000)", "x = $61", "$61 = 1", "$(-1) = 2", "$61 += 1", "$61++", "--$(-1)", "$\"61\"", "sub(/a/, \"b\", $61)", "gsub(/a/, \"b\", $(-1))", "print $61", "NF = 61", "NF = -1", "NF--", "--NF", "NF -= 5", "NF += 61", "NF = 1000000", "NF = 60; NF++", "a[61]; for (NF in a) x", "a[-1]; for (NF in a) x", "NF = 1; sub(/1/, 61, NF)", "length($61)", "$(1 + 60) = 1 + 1", "delete a[$61]", "$61 /= 0")
	checkBegin(t, "print $60 $(-0.999999) $60.999999 \"|\"; $60 = 1; print NF; NF = 60.9; print NF; a[60]; for (NF in a) print NF; NF = \"x\"; print NF", "|\n60\n60\n60\n0\n")
	// A form that is none.
	checkStops(t, impl.RunFull, `printf "%"`, `printf "%q"`, `printf "%100d", 1`, `printf "%.7f", 1`, `printf "%d%", 1`, `x = sprintf("%")`, `sprintf("%y", 1)`, `sprintf("%s%", 1)`, `print sprintf("a%")`, `printf u "%"`, `sprintf("%-")`)
	grow := func(size int) string {
		return fmt.Sprintf(`x = "a"; while (length(x) < %d) x = length(x) * 2 > %d ? x substr(x, 1, %d - length(x)) : x x; `, size, size, size)
	}
	// A line that is longer than MaxLine.
	for s, ok := range map[string]bool{
		"$0 = x": true, "$1 = x": true, "$0 = x; $0 = $0": true, "$0 = x; NF = 1": true, "$60 = \"\"; $0 = x": true, "sub(/^/, x)": true, "gsub(/^/, x, $1)": true, "y = x x": true, "y[x x]": true, "OFS = x; $1": true, "OFS = x; $1 = 1": true, "OFS = x; $2 = \"\"": true, "OFS = x; NF = 2": true, "$0 = x; sub(/a/, \"b\")": true, "$0 = x; gsub(/z/, \"bb\")": true, "$0 = \"b\"; $2 = substr(x, 3)": true,
		"$0 = x \"a\"": false, "$1 = x \"a\"": false, "$2 = x": false, "$60 = x": false, "$0 = x; $2 = \"\"": false, "$0 = x; NF = 2": false, "$0 = x; NF++": false, "sub(/^/, x \"a\")": false, "gsub(/^/, x \"a\", $1)": false, "sub(/^/, x, $2)": false, "OFS = x; $2 = 1": false, "OFS = x; NF = 3": false, "OFS = x; $0 = \"a b\"; $1 = \"c\"": false, "$0 = x; sub(/a/, \"bb\")": false, "$0 = x; gsub(/a/, \"bb\")": false, "$0 = \"b\"; $2 = substr(x, 2)": false, "$0 = x x": false, "a[x 1]; for (k in a) $0 = k": false,
	} {
		checkFull(t, grow(2000)+s, ok)
	}
	// A text that comes about and has more than MaxText bytes.
	for s, ok := range map[string]bool{
		`y = x ""`: true, `y = u x u`: true, `y = substr(x, 2) "b"`: true, `y = sprintf("%s", x)`: true, `y = sprintf("%s%s", substr(x, 2), 1)`: true, `printf x`: true, `printf "%s", x`: true, `sub(/a/, "b", x)`: true, `gsub(/a/, "b", x)`: true, `gsub(/a/, "", x)`: true, `gsub(/aa/, "bb", x)`: true, `sub(/a+/, "&", x)`: true, `sub(/z/, "bb", x)`: true, `a[x]; for (k in a) y = k`: true, `y = toupper(x)`: true, `y = x; z = y`: true, `split(x, a, "z")`: true, `print x, x`: true,
		`y = x "b"`: false, `y = "b" x`: false, `y = x x`: false, `x = x 1`: false, `length(x "b")`: false, `print x "b"`: false, `y = sprintf("%sb", x)`: false, `y = sprintf("%s%s", x, 1)`: false, `printf x "b"`: false, `printf "%sb", x`: false, `printf "%s%s", x, x`: false, `sub(/a/, "bb", x)`: false, `gsub(/a/, "bb", x)`: false, `sub(/^/, "b", x)`: false, `sub(/a+/, "&&", x)`: false, `gsub(/$/, "b", x)`: false, `(x "b") in a`: false, `a[x "b"]`: false, `a[x "b"] = 1`: false, `delete a[x 1]`: false, `if (x "b") y`: false, `x = x x ? 1 : 2`: false,
	} {
		checkFull(t, grow(4000)+s, ok)
	}
	// What one print puts out may be longer, since only MaxOut is asked for then.
	checkFull(t, grow(4000)+"ORS = OFS = \"\"; print x, x, x, x, x", true)
	checkFull(t, grow(4000)+"OFS = x; ORS = \"\"; print x, x, x", true)
	checkFull(t, grow(4000)+"OFS = x; print x, x, x", false)
}

// checkFull tells whether a BEGIN rule goes through or ends with RunFull.
func checkFull(t *testing.T, s string, ok bool) {
	t.Helper()
	p := mustProg(t, "BEGIN { "+s+" }")
	want := map[bool]int{true: impl.RunOk, false: impl.RunFull}[ok]
	if r := checkRun(t, p, nil, impl.MaxFuel); r.Code != want || impl.RunCode(p, nil, impl.MaxFuel) != r {
		t.Errorf("%s: %d, not %d", s, r.Code, want)
	}
}

// An array has at most MaxCells elements; each way to make one more is refused.
func TestMaxCells(t *testing.T) {
	fill := "while (i < 200) a[i++] = 1; "
	for s, ok := range map[string]bool{
		"": true, "a[0]": true, "a[199]": true, "a[5] = 2": true, "a[5]++": true, "x = a[7]": true, "sub(/1/, 2, a[9])": true, "200 in a": true, "delete a[200]": true, "delete a[0]; a[200]": true, "b[1]": true, "for (k in a) a[k]": true, "for (k in a) { delete a[k]; a[k + 200] }": true, "split(\"x y\", a); a[3]": true, "200 in a || a[1]": true, "delete a[0]; a[0] = 1": true,
		"a[200]": false, "a[200] = 1": false, "a[200] += 1": false, "a[200]++": false, "--a[200]": false, "x = a[\"x\"]": false, "a[u]": false, "sub(/z/, 2, a[200])": false, "gsub(/^/, 2, a[200])": false, "print a[200]": false, "!a[200]": false, "length(a[200])": false, "delete a[0]; a[200]; a[201]": false, "delete b[0]; a[200]": false, "delete a[a[200]]": false, "for (k in a) a[k \"x\"]": false, "a[200] /= 0": false, "0 || a[200]": false,
	} {
		checkFull(t, fill+s, ok)
	}
	checkStops(t, impl.RunFull, "while (1) a[i++]", "while (1) a[i++] = 1", "while (1) ++a[i++]")
	r := checkRun(t, mustProg(t, "BEGIN { while (1) { a[i++]; print i } }"), nil, impl.MaxFuel)
	if r.Code != impl.RunFull || !strings.HasSuffix(r.Out, "\n199\n200\n") {
		t.Error(r)
	}
}

// What would make the output longer than MaxOut is not put out at all.
func TestMaxOut(t *testing.T) {
	fill := func(size int) string {
		return fmt.Sprintf("ORS = \"\"; x = \"aaaaaaaaaa\"; while (length(x) < 1000) x = x x; x = substr(x, 1, 1000); while (n++ < %d) print x; print substr(x, 1, %d); ", size/1000, size%1000)
	}
	for _, c := range []struct {
		before int
		s      string
		more   string
		code   int
	}{
		{20000, "", "", impl.RunOk}, {20000, "print \"\"; printf \"\"; printf u; print u, u", "", impl.RunFull}, {20000, "print \"\"; printf \"\"; printf u; print u", "", impl.RunOk}, {20000, "print 1", "", impl.RunFull}, {20000, "printf 1", "", impl.RunFull}, {20000, "ORS = 1; print \"\"", "", impl.RunFull}, {19999, "print 1", "1", impl.RunOk}, {19999, "printf 1", "1", impl.RunOk}, {19999, "print 12", "", impl.RunFull}, {19999, "printf \"%02d\", 1", "", impl.RunFull}, {19999, "ORS = \"!\"; print 1", "", impl.RunFull}, {19999, "ORS = \"!\"; print \"\"", "!", impl.RunOk}, {19997, "print 1, 2", "1 2", impl.RunOk}, {19998, "print 1, 2", "", impl.RunFull}, {19998, "OFS = \"\"; print 1, 2", "12", impl.RunOk}, {19998, "print; print 123; print 1", "", impl.RunFull}, {19990, "while (1) print 123", "123123123", impl.RunFull}, {16000, "while (length(x) < 4000) x = x x; printf x", strings.Repeat("a", 4000), impl.RunOk}, {16001, "while (length(x) < 4000) x = x x; printf x", "", impl.RunFull}, {0, "print x, x, x, x, x, x, x, x", "", impl.RunOk}, {15000, "print x, x, x, x, x", "", impl.RunFull},
	} {
		p := mustProg(t, "BEGIN { "+fill(c.before)+c.s+" } END { x = 1 }")
		r := checkRun(t, p, nil, impl.MaxFuel)
		more := c.more
		if c.before == 0 {
			more = strings.Join(slices.Repeat([]string{bytesLong(1000)}, 8), " ")
		}
		if want := bytesLong(c.before) + more; r.Code != c.code || r.Out != want {
			t.Errorf("%d %s: %d and %d bytes", c.before, c.s, r.Code, len(r.Out))
		}
	}
	checkEnd(t, "BEGIN { ORS = \"\"; while (1) print \"1234567\" }", impl.RunFull, strings.Repeat("1234567", 2857))
	for _, size := range []int{19998, 19999, 20000, 20001, 100000} {
		want := impl.Result{Code: impl.RunFull}
		if size < 20000 {
			want = impl.Result{Out: bytesLong(size) + "\n"}
		}
		if r := impl.Run([]impl.Rule{rBegin(sPrint(eStr(bytesLong(size))))}, nil, 10); r != want {
			t.Error(size, r.Code, len(r.Out))
		}
	}
}

// A text of a program may be longer than MaxText: what comes about of it may not.
func TestLongTextsOfPrograms(t *testing.T) {
	long, most := eStr(bytesLong(4001)), eStr(bytesLong(4000))
	x := eVar("x")
	for i, c := range []struct {
		e        impl.Node
		code     int
		whenMost int
	}{
		{eCat(long, eStr("")), impl.RunFull, impl.RunOk}, {eCall("tolower", long), impl.RunFull, impl.RunOk}, {eCall("toupper", long), impl.RunFull, impl.RunOk}, {eCall("substr", long, eNum(1)), impl.RunFull, impl.RunOk}, {eCall("substr", long, eNum(2)), impl.RunOk, impl.RunOk}, {eCall("sprintf", long), impl.RunFull, impl.RunOk}, {eCall("sprintf", eStr("%s"), long), impl.RunFull, impl.RunOk}, {eCall("sprintf", eStr("%.3s"), long), impl.RunOk, impl.RunOk}, {eCall("split", long, eVar("a"), eStr("z")), impl.RunFull, impl.RunOk}, {eCall("split", long, eVar("a"), eRe("a")), impl.RunOk, impl.RunOk}, {eCall("length", long), impl.RunOk, impl.RunOk}, {eSet("=", x, long), impl.RunOk, impl.RunOk}, {eCall("gsub", eRe("a"), eStr(""), eIndex("a", long)), impl.RunOk, impl.RunOk}, {eMatch("~", long, eRe("b")), impl.RunOk, impl.RunOk}, {eMatch("~", eStr("a"), long), impl.RunRe, impl.RunRe}, {eCall("sub", long, x), impl.RunRe, impl.RunRe}, {eSet("=", eField(eNum(1)), long), impl.RunFull, impl.RunFull},
	} {
		if r := impl.Run([]impl.Rule{rBegin(sExp(c.e))}, nil, 100); r.Code != c.code {
			t.Errorf("%d: %d, not %d", i, r.Code, c.code)
		}
		e := copyNode(c.e)
		for j := range e.Kids {
			if e.Kids[j].Text == long.Text {
				e.Kids[j] = most
			}
		}
		if r := impl.Run([]impl.Rule{rBegin(sExp(e))}, nil, 100); r.Code != c.whenMost {
			t.Errorf("%d: %d, not %d", i, r.Code, c.whenMost)
		}
	}
	// How many bytes there are may be too great for a number.
	for size, code := range map[int]int{1000000: impl.RunOk, 1000001: impl.RunNum} {
		if r := impl.Run([]impl.Rule{rBegin(sExp(eCall("length", eStr(bytesLong(size)))))}, nil, 100); r.Code != code {
			t.Error(size, r.Code)
		}
		for i, e := range []impl.Node{eCall("index", eStr(bytesLong(size-1)+"b"), eStr("b")), eCall("match", eStr(bytesLong(size-1)), eRe("$")), eCall("match", eStr(bytesLong(size)), eRe("a*"))} {
			if r := impl.Run([]impl.Rule{rBegin(sExp(e))}, nil, 100); r.Code != code {
				t.Error(size, i, r.Code)
			}
		}
	}
}

func TestTrace(t *testing.T) {
	lines := []string{"a 1", "b 2", "a 3"}
	cases := []struct {
		s    string
		fuel int
		code int
		want []int
	}{
		{"/a/ { x } { y } END { z }", 5000, impl.RunOk, []int{2, 3, 1}}, {"BEGIN { } BEGIN { } 0 { } END { } 1", 5000, impl.RunOk, []int{1, 1, 0, 1, 3}}, {"NR == 2 { next } { }", 5000, impl.RunOk, []int{1, 2}}, {"NR == 2 { exit } { } END { } END { exit } END { }", 5000, impl.RunOk, []int{1, 1, 1, 1, 0}}, {"BEGIN { next } BEGIN { } { }", 5000, impl.RunOk, []int{1, 0, 3}}, {"BEGIN { exit } BEGIN { } { } END { }", 5000, impl.RunOk, []int{1, 0, 0, 1}},
		{"{ x } { y }", 0, impl.RunFuel, []int{0, 0}}, {"{ x } { y }", 1, impl.RunFuel, []int{1, 0}}, {"{ x } { y }", 3, impl.RunFuel, []int{1, 0}}, {"{ x } { y }", 4, impl.RunFuel, []int{1, 1}}, {"1 { x }", 1, impl.RunFuel, []int{0}}, {"1 { x }", 2, impl.RunFuel, []int{1}}, {"BEGIN { while (1) x } { }", 5000, impl.RunFuel, []int{1, 0}},
		{"{ } $2 == 2 { 1 / 0 } { }", 5000, impl.RunNum, []int{2, 1, 1}}, {"{ } 1 / ($2 - 2) { }", 5000, impl.RunNum, []int{2, 1}}, {"END { x ~ \"(\" } END { } { }", 5000, impl.RunRe, []int{1, 0, 3}}, {"$1 ~ (\"(\" $1) { }", 5000, impl.RunRe, []int{0}}, {"BEGIN { $61 } { }", 5000, impl.RunFull, []int{1, 0}}, {"{ NF = 1; x = $(60 + NR) } END { }", 5000, impl.RunFull, []int{1, 0}},
		{"{ }", -1, impl.RunNone, []int{0}}, {"BEGIN { } { }", impl.MaxFuel + 1, impl.RunNone, []int{0, 0}},
	}
	for _, c := range cases {
		p := mustProg(t, c.s)
		if got := impl.Trace(p, lines, c.fuel); !slices.Equal(got, c.want) {
			t.Errorf("Trace of %s with %d = %v, not %v", c.s, c.fuel, got, c.want)
		}
		if r := checkRun(t, p, lines, c.fuel); r.Code != c.code {
			t.Errorf("%s with %d: %d", c.s, c.fuel, r.Code)
		}
	}
}

// Each rule puts out its number when it is begun: so often it is told.
func TestTraceIsWhatWasBegun(t *testing.T) {
	lines := []string{"a b", "", "c", "a"}
	for _, s := range []string{"BEGIN {0} {1} /a/ {2} END {3}", "BEGIN {0; next} BEGIN {1} {2} END {3; exit} END {4}", "NR == 3 {0; exit} {1} NF {2; next} {3} END {4}", "{0; if (NR == 2) next} {1} !NF {2}", "BEGIN {0; exit} {1} END {2}"} {
		for i := range 5 {
			s = strings.Replace(s, fmt.Sprintf("{%d", i), fmt.Sprintf("{ print \"r%d\"", i), 1)
		}
		p := mustProg(t, s)
		out := impl.Run(p, lines, 5000).Out
		for i, many := range impl.Trace(p, lines, 5000) {
			if got := strings.Count(out, fmt.Sprintf("r%d\n", i)); got != many {
				t.Errorf("%s: rule %d is begun %d times, not %d", s, i, many, got)
			}
		}
	}
}

// liven makes a program of the maker's do more: its names, numbers and texts are
// such that runs go on.
func liven(from *rand.Rand, p []impl.Rule) []impl.Rule {
	p = copyRules(p)
	for _, n := range nodesOf(p) {
		switch {
		case n.Kind == impl.ENum:
			n.N = []int{0, impl.One, 2 * impl.One, 3 * impl.One, impl.One / 2, 60 * impl.One}[from.Intn(6)]
		case n.Kind == impl.EStr && from.Intn(2) == 0:
			n.Text = []string{"%s|%d", "1", "2x", ",", "ab", "a|b", "(", "&-", " "}[from.Intn(9)]
		case n.Kind == impl.EVar && n.Text == "RSTART":
			n.Text = []string{"FS", "ORS", "RLENGTH", "RSTART"}[from.Intn(4)]
		case (n.Kind == impl.SNext || n.Kind == impl.SExit) && from.Intn(3) > 0:
			*n = sPrint(eVar("x"), eField(eVar("z9")))
		}
	}
	for i := range p {
		if p[i].When != impl.WPat {
			p[i].Pat = impl.Node{}
		}
	}
	return p
}

func madeLines(from *rand.Rand) []string {
	parts := []string{"a", "b", "1", "2", " ", " ", ",", "10", "x"}
	lines := []string{}
	for range from.Intn(5) {
		line := ""
		for range from.Intn(8) {
			line += parts[from.Intn(len(parts))]
		}
		lines = append(lines, line)
	}
	return lines
}

func TestRunOfMadePrograms(t *testing.T) {
	t.Parallel()
	from := rand.New(rand.NewSource(101))
	codes := map[int]int{}
	for _, p := range madePrograms(102, 6000) {
		p = liven(from, p)
		lines := madeLines(from)
		for _, fuel := range []int{from.Intn(40), 40 + from.Intn(400), 2000} {
			codes[checkRun(t, p, lines, fuel).Code]++
		}
	}
	for code := range 6 {
		if code != impl.RunNone && codes[code] < 100 {
			t.Errorf("%s: %d times", impl.CodeName(code), codes[code])
		}
	}
}

func TestFuelsOfMadePrograms(t *testing.T) {
	t.Parallel()
	from := rand.New(rand.NewSource(103))
	for _, p := range madePrograms(104, 400) {
		checkFuels(t, liven(from, p), []string{"a b", "1,2 x", ""}, 150)
	}
	checkFuels(t, programOfAll(), []string{"a b", "c"}, 400)
}

// A program and its text mean the same.
func TestRunOfShownPrograms(t *testing.T) {
	from := rand.New(rand.NewSource(105))
	lines := []string{"a b", "1,2 x"}
	for _, p := range madePrograms(106, 800) {
		p = liven(from, p)
		if q, line := impl.Parse(impl.ShowProg(p)); line != 0 || impl.Run(p, lines, 500) != impl.Run(q, lines, 500) {
			t.Errorf("%q: %d", impl.ShowProg(p), line)
		}
	}
}

// roomyPrograms tells programs of each kind of node, each list of kids in which has
// a node that stands behind it.
func roomyPrograms(t *testing.T, seed int64, s string) [][]impl.Rule {
	t.Helper()
	from := rand.New(rand.NewSource(seed))
	list := [][]impl.Rule{programOfAll(), mustProg(t, s)}
	for _, p := range madePrograms(seed+1, 200) {
		list = append(list, liven(from, p))
	}
	for _, p := range list {
		for i := range p {
			giveRoom(&p[i].Pat)
			giveRoom(&p[i].Body)
		}
	}
	return list
}

// checkNotWritten asks whether one of these is what it was, with what stands behind
// its lists.
func checkNotWritten(t *testing.T, p []impl.Rule, was []impl.Rule) {
	t.Helper()
	if !sameRules(p, was) {
		t.Errorf("%q was written into", impl.ShowProg(was))
	}
	for _, n := range nodesOf(p) {
		if !sameNode(n.Kids[:len(n.Kids)+1][len(n.Kids)], eVar("behind")) {
			t.Errorf("%q: the room behind was written into", impl.ShowProg(was))
		}
	}
}

// Promise 17: nothing is written into, nothing is kept, and answers share nothing.
func TestRunWritesIntoNothing(t *testing.T) {
	for _, p := range roomyPrograms(t, 107, "{ a[$1] = $2; $1 = \"q\"; NF = 9; sub(/a/, \"b\", $2); split($0, c); delete a[1]; $0 = \"z\" } END { for (k in a) { delete a[k]; print k } }") {
		lines := append(make([]string, 0, 8), "a b", "c 1 2", "")
		room := lines[:cap(lines)]
		was, before := copyRules(p), slices.Clone(room)
		first, begun := impl.Run(p, lines, 400), impl.Trace(p, lines, 400)
		trace := impl.Trace(p, lines, 400)
		for i := range begun {
			begun[i] = -7
		}
		_ = append(begun, -8)
		if impl.Run(p, lines, 400) != first || !slices.Equal(impl.Trace(p, lines, 400), trace) {
			t.Errorf("%q: something is kept", impl.ShowProg(p))
		}
		checkNotWritten(t, p, was)
		if !slices.Equal(room, before) {
			t.Errorf("%q: lines were written into", impl.ShowProg(p))
		}
	}
}

// oddPrograms tells what is no program, among that what holds itself and what is
// far too great.
func oddPrograms() [][]impl.Rule {
	held := heldByItself(impl.EOp, "+", 2, 1)
	return [][]impl.Rule{nil, {{}}, {{When: -1}}, {{When: math.MaxInt, Body: sBlock()}}, inRule(held), {{When: impl.WAll, Body: heldByItself(impl.SBlock, "", 20, 7)}}, inBlock(sExp(doubled(eVar("x"), 60))), inBlock(impl.Node{Kind: -1}), inBlock(impl.Node{Kind: 30}), {{When: impl.WPat, Body: impl.Node{Kind: impl.SBlock}}}, slices.Repeat([]impl.Rule{rAll()}, 100000)}
}

// oddLines tells lines that are some of a run, and some that are none.
func oddLines() [][]string {
	return [][]string{nil, {"a"}, {"\n"}, slices.Repeat([]string{bytesLong(5000)}, 2000)}
}

// endlessPrograms tells programs that run as long as there is fuel.
func endlessPrograms(t *testing.T) [][]impl.Rule {
	t.Helper()
	list := [][]impl.Rule{}
	for _, s := range []string{"BEGIN { while (1) n++ }", "BEGIN { while (1) x = substr(x \"abc\", 1, 3000) }", "{ while (1) $60 = $1 x++ }", "BEGIN { while (1) { a[i++ % 300 % 200]; delete a[i % 7]; for (k in a) n++ } }", "{ while (1) { sub(/./, \"&&\", x); x = substr(x \"ab\", 1, 50) } }", "BEGIN { while (1) split(\"a b c d e f\", a) }", "BEGIN { ORS = \"\"; while (1) print \"\" }", "{ while (1) { NF = 60; NF = 0; $0 = \"a b\" } }"} {
		list = append(list, mustProg(t, s))
	}
	return list
}

// Every function answers at any arguments, and a run ends.
func TestRunAnswersAtAnything(t *testing.T) {
	begin := time.Now()
	for i, p := range oddPrograms() {
		for _, lines := range oddLines() {
			for _, fuel := range []int{math.MinInt, -1, 0, 1, 1000, math.MaxInt} {
				r, trace := impl.Run(p, lines, fuel), impl.Trace(p, lines, fuel)
				if len(trace) != len(p) || r.Code == impl.RunNone && r.Out != "" || r.Code < 0 || r.Code > 5 {
					t.Error(i, r.Code, len(trace))
				}
			}
		}
	}
	for i, p := range endlessPrograms(t) {
		if r := impl.Run(p, []string{"x y"}, impl.MaxFuel); r.Code != impl.RunFuel {
			t.Error(i, r.Code)
		}
	}
	if time.Since(begin) > time.Minute {
		t.Error(time.Since(begin))
	}
}
