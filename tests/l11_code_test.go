package tests

import (
	"math"
	"math/rand"
	"slices"
	"strings"
	"testing"
	"time"

	"loop.example/g00560/impl"
)

func sameUnits(a []impl.Unit, b []impl.Unit) bool {
	return slices.EqualFunc(a, b, func(x impl.Unit, y impl.Unit) bool {
		return x.When == y.When && slices.Equal(x.Pat, y.Pat) && slices.Equal(x.Body, y.Body)
	})
}

func copyUnits(list []impl.Unit) []impl.Unit {
	units := []impl.Unit{}
	for _, u := range list {
		units = append(units, impl.Unit{When: u.When, Pat: slices.Clone(u.Pat), Body: slices.Clone(u.Body)})
	}
	return units
}

// checkCode holds what is told of a program's code against the chapter's words, and
// asks for promise 11.
func checkCode(t *testing.T, p []impl.Rule) []impl.Unit {
	t.Helper()
	units := impl.Compile(p)
	if want := wantedUnits(p); !impl.ProgOk(p) || !sameUnits(units, want) {
		t.Fatalf("Compile of %q = %v, not %v", impl.ShowProg(p), units, want)
	}
	if got, want := impl.CodeText(p), wantedCodeText(p); got != want {
		t.Fatalf("CodeText of %q = %q, not %q", impl.ShowProg(p), got, want)
	}
	many := 0
	for i, u := range units {
		many += len(u.Pat) + len(u.Body)
		checkJumps(t, p, u.Pat)
		checkJumps(t, p, u.Body)
		// A pattern leaves one value, and a body none.
		if p[i].When == impl.WPat {
			checkStates(t, p, u.Pat, state{values: 1})
		}
		checkStates(t, p, u.Body, state{})
	}
	if got := impl.CodeSize(p); got != many {
		t.Fatalf("CodeSize of %q = %d, not %d", impl.ShowProg(p), got, many)
	}
	return units
}

// checkJumps is promise 11, for one code.
func checkJumps(t *testing.T, p []impl.Rule, steps []impl.Ins) {
	t.Helper()
	for at, step := range steps {
		if isJump(step.Op) && (step.N < 0 || step.N > len(steps)) {
			t.Fatalf("%q: step %d of %d goes to %d", impl.ShowProg(p), at, len(steps), step.N)
		}
	}
}

// checkStates asks that a code is at each place with one state alone, by whichever
// way, and how it ends, where it does.
func checkStates(t *testing.T, p []impl.Rule, steps []impl.Ins, end state) {
	t.Helper()
	known, ok := states(steps)
	if last, ends := known[len(steps)]; !ok || ends && last != end {
		t.Fatalf("%q: %v of %v", impl.ShowProg(p), known, steps)
	}
}

// stepLines tells the lines of a code that is written with ; and a blank between two
// steps.
func stepLines(code string, ahead string) string {
	if code == "" {
		return ""
	}
	return ahead + strings.ReplaceAll(code, "; ", "\n"+ahead) + "\n"
}

func checkCodeText(t *testing.T, s string, want string) {
	t.Helper()
	p := mustProg(t, s)
	if got := impl.CodeText(p); got != want {
		t.Errorf("CodeText of %q = %q, not %q", s, got, want)
	}
	checkCode(t, p)
}

// checkStatement tells the code of a statement, alone in each kind of rule, and
// behind another one: its jumps go as much further there.
func checkStatement(t *testing.T, s string, code string) {
	t.Helper()
	for head, line := range map[string]string{"": "all\n", "BEGIN": "begin\n", "END": "end\n", "(v || w)": "pattern\n?load v\n?zero 4\n?num 1\n?jump 6\n?load w\n?bool\n"} {
		checkCodeText(t, head+" { "+s+" }", line+stepLines(code, " "))
	}
	alone, behind := checkCode(t, mustProg(t, "{ "+s+" }"))[0].Body, checkCode(t, mustProg(t, "{ v; "+s+" }"))[0].Body
	want := append([]impl.Ins{{Op: impl.OpLoad, Kind: impl.EVar, Name: "v"}, {Op: impl.OpPop}}, alone...)
	for i := range alone {
		if isJump(alone[i].Op) {
			want[i+2].N += 2
		}
	}
	if !slices.Equal(behind, want) {
		t.Errorf("%s behind another one: %v, not %v", s, behind, want)
	}
}

// checkExpression tells the code of an expression, as a pattern and in a body.
func checkExpression(t *testing.T, s string, code string) {
	t.Helper()
	checkCodeText(t, "("+s+") { }", "pattern\n"+stepLines(code, "?"))
	checkCodeText(t, "("+s+")", "pattern\n"+stepLines(code, "?")+" print\n")
	checkStatement(t, s, code+"; pop")
}

func TestCodeConstants(t *testing.T) {
	ops := []int{impl.OpNum, impl.OpStr, impl.OpRe, impl.OpLoad, impl.OpSet, impl.OpStep, impl.OpPop, impl.OpJump, impl.OpZero, impl.OpBool, impl.OpIn, impl.OpTwo, impl.OpNot, impl.OpNeg, impl.OpCall, impl.OpSplit, impl.OpSub, impl.OpPrint, impl.OpForm, impl.OpKeys, impl.OpKey, impl.OpDel, impl.OpNext, impl.OpExit}
	for i, op := range ops {
		if op != i {
			t.Errorf("Op %d is %d", i, op)
		}
	}
}

func TestCodeOfSingles(t *testing.T) {
	for s, code := range map[string]string{
		"0": "num 0", "1": "num 1", "1.50": "num 1.5", "0.000001": "num 0.000001", "1000000": "num 1000000",
		`""`: `str ""`, `"a"`: `str "a"`, `"a b"`: `str "a b"`, `"\n\t\"\\\000\377"`: `str "\n\t\"\\\000\377"`, `"/a/"`: `str "/a/"`,
		"/a/": "re /a/", "//": "re //", `/a\/b|c /`: `re /a\/b|c /`, `/"/`: `re /"/`,
		"x": "load x", "NF": "load NF", "$1": "num 1; load", "$x": "load x; load", "$NF": "load NF; load", "$$1": "num 1; load; load", "$(x + 1)": "load x; num 1; two +; load", "$/a/": "re /a/; load", "q[1]": "num 1; load q", "q[x]": "load x; load q", "q[r[x]]": "load x; load r; load q", "q[$1]": "num 1; load; load q", `q["k"]`: `str "k"; load q`,
	} {
		checkExpression(t, s, code)
	}
}

func TestCodeOfSetsAndSteps(t *testing.T) {
	// Each sign with each place: what stands ahead of the kid's end, and the name.
	places := []struct{ place, kid, name string }{{"x", "", " x"}, {"NF", "", " NF"}, {"q[1]", "num 1; ", " q"}, {"q[y z]", "load y; load z; two; ", " q"}, {"$1", "num 1; ", ""}, {"$0", "num 0; ", ""}, {"$x", "load x; ", ""}, {"$(x + 1)", "load x; num 1; two +; ", ""}, {"q[$1]", "num 1; load; ", " q"}, {"$q[1]", "num 1; load q; ", ""}}
	for _, place := range places {
		for _, sign := range []string{"=", "+=", "-=", "*=", "/=", "%="} {
			checkExpression(t, place.place+" "+sign+" 2", place.kid+"num 2; set "+sign+place.name)
			checkExpression(t, place.place+" "+sign+" /a/", place.kid+"re /a/; set "+sign+place.name)
		}
		for _, sign := range []string{"++", "--"} {
			checkExpression(t, sign+place.place, place.kid+"step "+sign+place.name)
			checkExpression(t, place.place+sign, place.kid+"step "+sign+place.name+" 1")
		}
	}
	for s, code := range map[string]string{
		"x = y = 1": "num 1; set = y; set = x", "q[x = 1] = y": "num 1; set = x; load y; set = q", "x = q[1]": "num 1; load q; set = x", "q[r[1]] = 2": "num 1; load r; num 2; set = q", "$$1 = 2": "num 1; load; num 2; set =", "x += x++": "step ++ x 1; set += x", "$x++": "load x; step ++ 1", "$(x++)": "step ++ x 1; load", "++q[x--]": "step -- x 1; step ++ q", "i++ + ++i": "step ++ i 1; step ++ i; two +", "q[x && y] = z": "load x; zero 5; load y; bool; jump 6; num 0; load z; set = q", "x = y || z": "load y; zero 4; num 1; jump 6; load z; bool; set = x", "x = a ? b : c": "load a; zero 4; load b; jump 5; load c; set = x",
	} {
		checkExpression(t, s, code)
	}
}

func TestCodeOfChoices(t *testing.T) {
	for s, code := range map[string]string{
		"a ? b : c": "load a; zero 4; load b; jump 5; load c", "a || b": "load a; zero 4; num 1; jump 6; load b; bool", "a && b": "load a; zero 5; load b; bool; jump 6; num 0",
		"a ? b ? c : d : e": "load a; zero 8; load b; zero 6; load c; jump 7; load d; jump 9; load e", "a ? b : c ? d : e": "load a; zero 4; load b; jump 9; load c; zero 8; load d; jump 9; load e", "(a ? b : c) ? d : e": "load a; zero 4; load b; jump 5; load c; zero 8; load d; jump 9; load e",
		"a || b || c": "load a; zero 4; num 1; jump 6; load b; bool; zero 9; num 1; jump 11; load c; bool", "a || (b || c)": "load a; zero 4; num 1; jump 11; load b; zero 8; num 1; jump 10; load c; bool; bool", "a && b && c": "load a; zero 5; load b; bool; jump 6; num 0; zero 10; load c; bool; jump 11; num 0", "a && (b && c)": "load a; zero 10; load b; zero 7; load c; bool; jump 8; num 0; bool; jump 11; num 0",
		"a || b && c": "load a; zero 4; num 1; jump 11; load b; zero 9; load c; bool; jump 10; num 0; bool", "a && b || c": "load a; zero 5; load b; bool; jump 6; num 0; zero 9; num 1; jump 11; load c; bool", "a && (b || c)": "load a; zero 10; load b; zero 6; num 1; jump 8; load c; bool; bool; jump 11; num 0", "(a || b) && c": "load a; zero 4; num 1; jump 6; load b; bool; zero 10; load c; bool; jump 11; num 0",
		"a ? b && c : d || e": "load a; zero 9; load b; zero 7; load c; bool; jump 8; num 0; jump 15; load d; zero 13; num 1; jump 15; load e; bool", "a && b ? c : d": "load a; zero 5; load b; bool; jump 6; num 0; zero 9; load c; jump 10; load d", "a || (b ? c : d)": "load a; zero 4; num 1; jump 10; load b; zero 8; load c; jump 9; load d; bool", "a && (b ? c : d)": "load a; zero 9; load b; zero 6; load c; jump 7; load d; bool; jump 10; num 0",
		"a ? /b/ : /c/": "load a; zero 4; re /b/; jump 5; re /c/", "/a/ ? 1 : 0": "re /a/; zero 4; num 1; jump 5; num 0", "!(a && b)": "load a; zero 5; load b; bool; jump 6; num 0; not", "(a || b) + 1": "load a; zero 4; num 1; jump 6; load b; bool; num 1; two +", "x (a && b)": "load x; load a; zero 6; load b; bool; jump 7; num 0; two", "length(a || b)": "load a; zero 4; num 1; jump 6; load b; bool; call length 1", "1 && 0": "num 1; zero 5; num 0; bool; jump 6; num 0", "0 ? 1 : 2": "num 0; zero 4; num 1; jump 5; num 2",
	} {
		checkExpression(t, s, code)
	}
}

func TestCodeOfOthers(t *testing.T) {
	cases := map[string]string{
		"x in q": "load x; in q", "1 in q": "num 1; in q", "x in q in r": "load x; in q; in r", "/a/ in q": "re /a/; in q",
		"x y": "load x; load y; two", "x y z": "load x; load y; two; load z; two", "x (/a/)": "load x; re /a/; two", "!x": "load x; not", "-x": "load x; neg", "- -1": "num 1; neg; neg", "!-x": "load x; neg; not", "!/a/": "re /a/; not", "2 ^ 3 ^ x": "num 2; num 3; load x; two ^; two ^", "2 - 3 - x": "num 2; num 3; two -; load x; two -", "1 + 2 * 3": "num 1; num 2; num 3; two *; two +", "/a/ + /b/": "re /a/; re /b/; two +", "x == /a/": "load x; re /a/; two ==",
		// Of an ERe that has to be an expression for texts there is its Text alone.
		"x ~ (/a/)": `load x; str "a"; two ~`, "/a/ ~ /b/": `re /a/; str "b"; two ~`, "/a/ !~ x": "re /a/; load x; two !~", "x ~ !/a/": "load x; re /a/; not; two ~", "x ~ (/a/ (/b/))": "load x; re /a/; re /b/; two; two ~", "x ~ (y ? /a/ : /b/)": "load x; load y; zero 5; re /a/; jump 6; re /b/; two ~", `x ~ "a"`: `load x; str "a"; two ~`, "x ~ /a/ ~ /b/": `load x; str "a"; two ~; str "b"; two ~`, `x ~ /\//`: `load x; str "\\/"; two ~`, "x ~ 1": "load x; num 1; two ~", "x ~ $1": "load x; num 1; load; two ~",
	}
	for _, sign := range []string{"<", "<=", "==", "!=", ">", ">=", "+", "-", "*", "/", "%", "^", "~", "!~"} {
		cases["x "+sign+" y"] = "load x; load y; two " + sign
		cases["$1 "+sign+" (y z)"] = "num 1; load; load y; load z; two; two " + sign
	}
	for s, code := range cases {
		checkExpression(t, s, code)
	}
	for _, sign := range []string{"~", "!~"} {
		checkExpression(t, "x "+sign+" /a|b/", `load x; str "a|b"; two `+sign)
	}
}

func TestCodeOfCalls(t *testing.T) {
	for s, code := range map[string]string{
		"length()": "call length", "length(x)": "load x; call length 1", "length(/a/)": "re /a/; call length 1", "substr(x, y)": "load x; load y; call substr 2", "substr(x, y, z)": "load x; load y; load z; call substr 3", "substr(/a/, /b/, /c/)": "re /a/; re /b/; re /c/; call substr 3", "index(x, y)": "load x; load y; call index 2", "index(/a/, /b/)": "re /a/; re /b/; call index 2", "tolower(x)": "load x; call tolower 1", "toupper(/a/)": "re /a/; call toupper 1", "int(1.5)": "num 1.5; call int 1", "int(length())": "call length; call int 1",
		"match(x, y)": "load x; load y; call match 2", "match(x, /a/)": `load x; str "a"; call match 2`, "match(/a/, /b/)": `re /a/; str "b"; call match 2`, `match(x, "a")`: `load x; str "a"; call match 2`, "match(x, !/a/)": "load x; re /a/; not; call match 2", "match(x, (/a/))": `load x; str "a"; call match 2`,
		"sprintf(x)": "load x; call sprintf 1", "sprintf(/a/)": "re /a/; call sprintf 1", "sprintf(1, 2)": "num 1; num 2; call sprintf 2", "sprintf(1, 2, 3)": "num 1; num 2; num 3; call sprintf 3", "sprintf(1, 2, 3, 4)": "num 1; num 2; num 3; num 4; call sprintf 4", "sprintf(1, 2, 3, 4, 5)": "num 1; num 2; num 3; num 4; num 5; call sprintf 5", "sprintf(1, 2, 3, 4, 5, 6)": "num 1; num 2; num 3; num 4; num 5; num 6; call sprintf 6", "sprintf(1, 2, 3, 4, 5, 6, 7)": "num 1; num 2; num 3; num 4; num 5; num 6; num 7; call sprintf 7", "sprintf(1, 2, 3, 4, 5, 6, 7, 8)": "num 1; num 2; num 3; num 4; num 5; num 6; num 7; num 8; call sprintf 8",
		// split's array is in no step of its own, and does not count.
		"split(x, q)": "load x; split q 1", "split(/a/, q)": "re /a/; split q 1", "split(x, q, y)": "load x; load y; split q 2", "split(x, q, /a/)": `load x; str "a"; split q 2`, `split(x, q, "a")`: `load x; str "a"; split q 2`, `split(x, q, "")`: `load x; str ""; split q 2`, "split(/a/, q, /b/)": `re /a/; str "b"; split q 2`, "split(x, q, y z)": "load x; load y; load z; two; split q 2", "split(x, q, !/a/)": "load x; re /a/; not; split q 2", "split(x, q, $1)": "load x; num 1; load; split q 2", "split(q[1], q, q[2])": "num 1; load q; num 2; load q; split q 2", "split(x, q, y ? /a/ : z)": "load x; load y; zero 5; re /a/; jump 6; load z; split q 2", "split(split(x, q), r)": "load x; split q 1; split r 1",
		// The kid of sub's place stands behind both; without a place it is field 0.
		"sub(x, y)": "load x; load y; num 0; sub sub", "gsub(x, y)": "load x; load y; num 0; sub gsub", "sub(/a/, y)": `str "a"; load y; num 0; sub sub`, "gsub(/a/, /b/)": `str "a"; re /b/; num 0; sub gsub`, `sub("a", "b")`: `str "a"; str "b"; num 0; sub sub`, "gsub(!/a/, y)": "re /a/; not; load y; num 0; sub gsub", "sub(x y, z)": "load x; load y; two; load z; num 0; sub sub",
		"sub(x, y, z)": "load x; load y; sub sub z", "gsub(/a/, y, z)": `str "a"; load y; sub gsub z`, "sub(x, y, NF)": "load x; load y; sub sub NF", "sub(x, y, q[z])": "load x; load y; load z; sub sub q", "gsub(/a/, /b/, q[/c/])": `str "a"; re /b/; re /c/; sub gsub q`, "gsub(x, y, q[r[1]])": "load x; load y; num 1; load r; sub gsub q", "sub(x, y, $1)": "load x; load y; num 1; sub sub", "gsub(x, y, $0)": "load x; load y; num 0; sub gsub", "sub(x, y, $$1)": "load x; load y; num 1; load; sub sub", "sub(x, y, $(z + 1))": "load x; load y; load z; num 1; two +; sub sub", "gsub(x, y, (z))": "load x; load y; sub gsub z", "gsub(x, y = 1, q[y])": "load x; num 1; set = y; load y; sub gsub q", "sub(x, sub(y, z), v)": "load x; load y; load z; num 0; sub sub; sub sub v",
		"sub(a && b, c, q[d || e])": "load a; zero 5; load b; bool; jump 6; num 0; load c; load d; zero 11; num 1; jump 13; load e; bool; sub sub q", "match(a ? /b/ : c, d && e)": "load a; zero 4; re /b/; jump 5; load c; load d; zero 10; load e; bool; jump 11; num 0; call match 2",
	} {
		checkExpression(t, s, code)
	}
}

func TestCodeOfStatements(t *testing.T) {
	for s, code := range map[string]string{
		"x": "load x; pop", "1; 2": "num 1; pop; num 2; pop", "x = 1": "num 1; set = x; pop", "": "", "{ }": "", "{ { } }": "", "{ x; { y } } z": "load x; pop; load y; pop; load z; pop",
		"print": "print", "print x": "load x; print 1", "print x, 1, $1": "load x; num 1; num 1; load; print 3", "print 1, 2, 3, 4, 5, 6, 7, 8": "num 1; num 2; num 3; num 4; num 5; num 6; num 7; num 8; print 8", "print /a/": "re /a/; print 1", "print x y": "load x; load y; two; print 1", "print a || b, c": "load a; zero 4; num 1; jump 6; load b; bool; load c; print 2",
		`printf "%s", x`: `str "%s"; load x; form 2`, "printf x": "load x; form 1", "printf /a/": "re /a/; form 1", "printf 1, 2, 3, 4, 5, 6, 7, 8": "num 1; num 2; num 3; num 4; num 5; num 6; num 7; num 8; form 8",
		"next": "next", "exit": "exit", "next; exit; x": "next; exit; load x; pop", "delete q[1]": "num 1; del q", "delete q[x y]": "load x; load y; two; del q", "delete q[r[1]]": "num 1; load r; del q", "delete q[/a/]": "re /a/; del q", "delete q[a && b]": "load a; zero 5; load b; bool; jump 6; num 0; del q",
	} {
		checkStatement(t, s, code)
	}
}

func TestCodeOfIf(t *testing.T) {
	for s, code := range map[string]string{
		"if (a) b": "load a; zero 4; load b; pop", "if (a) b; else c": "load a; zero 5; load b; pop; jump 7; load c; pop", "if (a) b; c": "load a; zero 4; load b; pop; load c; pop", "if (a) b; else c; d": "load a; zero 5; load b; pop; jump 7; load c; pop; load d; pop",
		"if (a) { }": "load a; zero 2", "if (a) { } b": "load a; zero 2; load b; pop", "if (a) { } else { }": "load a; zero 3; jump 3", "if (a) { } else b": "load a; zero 3; jump 5; load b; pop", "if (a) b; else { }": "load a; zero 5; load b; pop; jump 5", "if (a) { { } }": "load a; zero 2",
		"if (a) if (b) c": "load a; zero 6; load b; zero 6; load c; pop", "if (a) if (b) c; else d": "load a; zero 9; load b; zero 7; load c; pop; jump 9; load d; pop", "if (a) { if (b) c } else d": "load a; zero 7; load b; zero 6; load c; pop; jump 9; load d; pop", "if (a) b; else if (c) d; else e": "load a; zero 5; load b; pop; jump 12; load c; zero 10; load d; pop; jump 12; load e; pop", "if (a) b; else if (c) d": "load a; zero 5; load b; pop; jump 9; load c; zero 9; load d; pop", "if (a) { if (b) c; d } e": "load a; zero 8; load b; zero 6; load c; pop; load d; pop; load e; pop",
		"if (a && b) c": "load a; zero 5; load b; bool; jump 6; num 0; zero 9; load c; pop", "if (/a/) x": "re /a/; zero 4; load x; pop", "if (a ? b : c) d; else e": "load a; zero 4; load b; jump 5; load c; zero 9; load d; pop; jump 11; load e; pop", "if (a) b || c; else d": "load a; zero 10; load b; zero 6; num 1; jump 8; load c; bool; pop; jump 12; load d; pop", "if (x = 1) print": "num 1; set = x; zero 4; print", "if (a) next; else exit": "load a; zero 4; next; jump 5; exit",
	} {
		checkStatement(t, s, code)
	}
}

func TestCodeOfLoops(t *testing.T) {
	for s, code := range map[string]string{
		"while (a) b": "load a; zero 5; load b; pop; jump", "while (a) { }": "load a; zero 3; jump", "x; while (a) b": "load x; pop; load a; zero 7; load b; pop; jump 2", "while (a) b; c": "load a; zero 5; load b; pop; jump; load c; pop", "while (a) while (b) c": "load a; zero 8; load b; zero 7; load c; pop; jump 2; jump", "while (a) { while (b) { } c }": "load a; zero 8; load b; zero 5; jump 2; load c; pop; jump", "while (a && b) c": "load a; zero 5; load b; bool; jump 6; num 0; zero 10; load c; pop; jump", "while (a) next": "load a; zero 4; next; jump", "while (i++ < 3) print i": "step ++ i 1; num 3; two <; zero 7; load i; print 1; jump", "while (a) if (b) c": "load a; zero 7; load b; zero 6; load c; pop; jump", "while (a) if (b) { }": "load a; zero 5; load b; zero 4; jump", "if (a) while (b) c; else d": "load a; zero 8; load b; zero 7; load c; pop; jump 2; jump 10; load d; pop", "while (a) { } while (b) { }": "load a; zero 3; jump; load b; zero 6; jump 3",
		"for (k in q) b": "keys q; key k 5; load b; pop; jump 1", "for (k in q) { }": "keys q; key k 3; jump 1", "x; for (k in q) delete q[k]": "load x; pop; keys q; key k 7; load k; del q; jump 3", "for (k in q) for (l in r) b": "keys q; key k 8; keys r; key l 7; load b; pop; jump 3; jump 1", "for (k in q) for (k in q) { }": "keys q; key k 6; keys q; key k 5; jump 3; jump 1", "for (k in q) { for (l in r) { } for (m in q) { } }": "keys q; key k 9; keys r; key l 5; jump 3; keys q; key m 8; jump 6; jump 1", "for (k in q) { } for (k in r) { }": "keys q; key k 3; jump 1; keys r; key k 6; jump 4", "while (a) for (k in q) b": "load a; zero 8; keys q; key k 7; load b; pop; jump 3; jump", "for (k in q) while (a) b": "keys q; key k 8; load a; zero 7; load b; pop; jump 2; jump 1", "for (NF in q) x": "keys q; key NF 5; load x; pop; jump 1", "for (k in q) if (a) exit": "keys q; key k 6; load a; zero 5; exit; jump 1", "for (k in q) next": "keys q; key k 4; next; jump 1", "if (a) for (k in q) { }": "load a; zero 5; keys q; key k 5; jump 3", "for (k in q) print k, q[k]": "keys q; key k 7; load k; load k; load q; print 2; jump 1", "for (k in q) a || b": "keys q; key k 10; load a; zero 6; num 1; jump 8; load b; bool; pop; jump 1",
	} {
		checkStatement(t, s, code)
	}
}

func TestCodeOfRules(t *testing.T) {
	for s, want := range map[string]string{
		"{ }": "all\n", "BEGIN { }": "begin\n", "END { }": "end\n", "1 { }": "pattern\n?num 1\n", "1": "pattern\n?num 1\n print\n", "/a/": "pattern\n?re /a/\n print\n", "{ print }": "all\n print\n", "BEGIN { x }": "begin\n load x\n pop\n", "END { x }": "end\n load x\n pop\n", "x = 1 { y }": "pattern\n?num 1\n?set = x\n load y\n pop\n",
		// The places of a pattern's code and of a body's are each told from 0 on.
		"a && b { c && d }": "pattern\n?load a\n?zero 5\n?load b\n?bool\n?jump 6\n?num 0\n load c\n zero 5\n load d\n bool\n jump 6\n num 0\n pop\n", "a ? b : c { while (d) { } }": "pattern\n?load a\n?zero 4\n?load b\n?jump 5\n?load c\n load d\n zero 3\n jump\n", "{ while (a) { } } { while (b) { } }": "all\n load a\n zero 3\n jump\nall\n load b\n zero 3\n jump\n",
		"END { a } BEGIN { b } c { d } { e } f": "end\n load a\n pop\nbegin\n load b\n pop\npattern\n?load c\n load d\n pop\nall\n load e\n pop\npattern\n?load f\n print\n", "{ } { } BEGIN { }": "all\nall\nbegin\n", strings.Repeat("{ }\n", 20): strings.Repeat("all\n", 20),
	} {
		checkCodeText(t, s, want)
	}
	for s, want := range map[string]int{"{ }": 0, "1": 2, "1 { }": 1, "BEGIN { } END { }": 0, "{ x }": 2, "{ x } { y; z }": 6, "a || b": 7, "a && b { c && d }": 13, strings.Repeat("1\n", 20): 40} {
		if got := impl.CodeSize(mustProg(t, s)); got != want {
			t.Errorf("CodeSize of %s = %d, not %d", s, got, want)
		}
	}
}

// What CodeText does not show, too: the Kind of a place and of what takes two.
func TestAllOfAStep(t *testing.T) {
	const set, step, sub, two = impl.OpSet, impl.OpStep, impl.OpSub, impl.OpTwo
	v, e, f := impl.EVar, impl.EIndex, impl.EField
	cases := map[string]impl.Ins{
		"x": {Op: impl.OpLoad, Kind: v, Name: "x"}, "q[1]": {Op: impl.OpLoad, Kind: e, Name: "q"}, "$1": {Op: impl.OpLoad, Kind: f}, "NF": {Op: impl.OpLoad, Kind: v, Name: "NF"},
		"x = 1": {Op: set, Kind: v, Text: "=", Name: "x"}, "q[1] += 1": {Op: set, Kind: e, Text: "+=", Name: "q"}, "$1 %= 1": {Op: set, Kind: f, Text: "%="}, "++x": {Op: step, Kind: v, Text: "++", Name: "x"}, "--q[1]": {Op: step, Kind: e, Text: "--", Name: "q"}, "++$1": {Op: step, Kind: f, Text: "++"}, "x--": {Op: step, Kind: v, Text: "--", Name: "x", N: 1}, "q[1]++": {Op: step, Kind: e, Text: "++", Name: "q", N: 1}, "$1--": {Op: step, Kind: f, Text: "--", N: 1},
		"sub(x, y)": {Op: sub, Kind: f, Text: "sub"}, "gsub(x, y)": {Op: sub, Kind: f, Text: "gsub"}, "sub(x, y, z)": {Op: sub, Kind: v, Text: "sub", Name: "z"}, "gsub(x, y, q[1])": {Op: sub, Kind: e, Text: "gsub", Name: "q"}, "sub(x, y, $1)": {Op: sub, Kind: f, Text: "sub"}, "split(x, q)": {Op: impl.OpSplit, N: 1, Name: "q"}, "split(x, q, y)": {Op: impl.OpSplit, N: 2, Name: "q"}, "length()": {Op: impl.OpCall, Text: "length"}, "match(x, y)": {Op: impl.OpCall, N: 2, Text: "match"},
		"x ~ y": {Op: two, Kind: impl.EMatch, Text: "~"}, "x !~ y": {Op: two, Kind: impl.EMatch, Text: "!~"}, "x < y": {Op: two, Kind: impl.ECmp, Text: "<"}, "x == y": {Op: two, Kind: impl.ECmp, Text: "=="}, "x y": {Op: two, Kind: impl.ECat}, "x + y": {Op: two, Kind: impl.EOp, Text: "+"}, "x ^ y": {Op: two, Kind: impl.EOp, Text: "^"},
		"x in q": {Op: impl.OpIn, Name: "q"}, "!x": {Op: impl.OpNot}, "-x": {Op: impl.OpNeg}, "x || y": {Op: impl.OpBool}, "x && y": {Op: impl.OpNum}, "1.5": {Op: impl.OpNum, N: 1500000}, `"a\n"`: {Op: impl.OpStr, Text: "a\n"}, "/a/": {Op: impl.OpRe, Text: "a"}, "x ? y : /b/": {Op: impl.OpRe, Text: "b"},
	}
	for s, want := range cases {
		units := checkCode(t, mustProg(t, "("+s+") { "+s+" }"))
		pat, body := units[0].Pat, units[0].Body
		if got := pat[len(pat)-1]; got != want {
			t.Errorf("%s ends with %v, not %v", s, got, want)
		}
		if !slices.Equal(body, append(slices.Clone(pat), impl.Ins{Op: impl.OpPop})) {
			t.Errorf("%s: %v and %v", s, pat, body)
		}
	}
	for s, want := range map[string][]impl.Ins{
		"a || b": {{Op: impl.OpLoad, Kind: v, Name: "a"}, {Op: impl.OpZero, N: 4}, {Op: impl.OpNum, N: impl.One}, {Op: impl.OpJump, N: 6}, {Op: impl.OpLoad, Kind: v, Name: "b"}, {Op: impl.OpBool}, {Op: impl.OpPop}}, "for (k in q) { }": {{Op: impl.OpKeys, Name: "q"}, {Op: impl.OpKey, Name: "k", N: 3}, {Op: impl.OpJump, N: 1}}, "print; printf x; delete q[1]; next; exit": {{Op: impl.OpPrint}, {Op: impl.OpLoad, Kind: v, Name: "x"}, {Op: impl.OpForm, N: 1}, {Op: impl.OpNum, N: impl.One}, {Op: impl.OpDel, Name: "q"}, {Op: impl.OpNext}, {Op: impl.OpExit}},
	} {
		if got := impl.Compile(mustProg(t, "{ "+s+" }")); !sameUnits(got, []impl.Unit{{When: impl.WAll, Body: want}}) {
			t.Errorf("%s: %v, not %v", s, got, want)
		}
	}
}

func TestInsText(t *testing.T) {
	for _, c := range []struct {
		i    impl.Ins
		want string
	}{
		{impl.Ins{}, "num 0"}, {impl.Ins{Op: impl.OpNum, N: impl.One}, "num 1"}, {impl.Ins{Op: impl.OpNum, N: -1500000}, "num -1.5"}, {impl.Ins{Op: impl.OpNum, N: impl.MaxNum}, "num 1000000"}, {impl.Ins{Op: impl.OpNum, N: 1, Kind: 3, Text: "t", Name: "n"}, "num 0.000001"}, {impl.Ins{Op: impl.OpNum, N: impl.MaxNum + 1}, "num "}, {impl.Ins{Op: impl.OpNum, N: math.MinInt}, "num "},
		{impl.Ins{Op: impl.OpStr}, `str ""`}, {impl.Ins{Op: impl.OpStr, Text: "a\"\n\xff", N: 5, Name: "n"}, `str "a\"\n\377"`}, {impl.Ins{Op: impl.OpRe}, "re //"}, {impl.Ins{Op: impl.OpRe, Text: "a|b", N: 5, Name: "n"}, "re /a|b/"}, {impl.Ins{Op: impl.OpRe, Text: "/\n\""}, "re //\n\"/"},
		{impl.Ins{Op: impl.OpLoad, Kind: 4}, "load"}, {impl.Ins{Op: impl.OpLoad, Name: "x"}, "load x"}, {impl.Ins{Op: impl.OpSet, Text: "+=", Name: "x", Kind: 4}, "set += x"}, {impl.Ins{Op: impl.OpStep, Text: "++", Name: "x", N: 1}, "step ++ x 1"}, {impl.Ins{Op: impl.OpStep, N: 1}, "step 1"}, {impl.Ins{Op: impl.OpJump}, "jump"}, {impl.Ins{Op: impl.OpJump, N: 7}, "jump 7"}, {impl.Ins{Op: impl.OpJump, N: -7}, "jump -7"}, {impl.Ins{Op: impl.OpZero, N: math.MaxInt}, "zero 9223372036854775807"}, {impl.Ins{Op: impl.OpKey, Name: "k", N: math.MinInt}, "key k -9223372036854775808"},
		{impl.Ins{Op: impl.OpPop, Text: "a\n\" b", Name: "\x00", N: 2}, "pop a\n\" b \x00 2"}, {impl.Ins{Op: impl.OpExit, Text: " ", Name: " "}, "exit    "}, {impl.Ins{Op: impl.OpExit}, "exit"}, {impl.Ins{Op: impl.OpCall, Text: "length"}, "call length"}, {impl.Ins{Op: impl.OpTwo, Kind: 13}, "two"},
		{impl.Ins{Op: -1}, ""}, {impl.Ins{Op: 24}, ""}, {impl.Ins{Op: 24, N: 1, Text: "t", Name: "n"}, ""}, {impl.Ins{Op: math.MinInt, Text: "t"}, ""}, {impl.Ins{Op: math.MaxInt, Name: "n"}, ""},
	} {
		if got := impl.InsText(c.i); got != c.want {
			t.Errorf("InsText(%v) = %q, not %q", c.i, got, c.want)
		}
	}
	texts := []string{"", "t", "=", "a b", "\"\\\n\t\x00\xff", "/", bytesLong(5000)}
	for op := -3; op <= impl.OpExit+3; op++ {
		for _, text := range texts {
			for _, name := range texts {
				for _, n := range []int{0, 1, -1, 42, impl.One, -impl.One, impl.MaxNum, impl.MaxNum + 1, -impl.MaxNum, -impl.MaxNum - 1, math.MaxInt, math.MinInt} {
					for _, kind := range []int{0, 4, -1} {
						i := impl.Ins{Op: op, N: n, Kind: kind, Text: text, Name: name}
						if got, want := impl.InsText(i), wantedIns(i); got != want {
							t.Fatalf("InsText(%.200v) = %.200q, not %.200q", i, got, want)
						}
					}
				}
			}
		}
	}
}

func TestCodeOfWhatIsNoProgram(t *testing.T) {
	begin := time.Now()
	deep := impl.Rule{When: impl.WAll, Body: deepNode(sBlock(), 31, func(n impl.Node) impl.Node { return sBlock(n) })}
	pat := rAll(sPrint())
	pat.Pat = eVar("x")
	noPat := impl.Rule{When: impl.WPat, Body: sBlock(sPrint())}
	noPat.Pat.N = -1
	for i, p := range [][]impl.Rule{
		nil, {}, {{}}, {rAll(), {}}, {pat}, {noPat}, {{When: -1, Body: sBlock()}}, {{When: 4, Body: sBlock()}}, {{When: math.MaxInt, Body: sBlock()}}, {{When: impl.WPat, Pat: sNext(), Body: sBlock()}}, {{When: impl.WAll, Body: sNext()}}, slices.Repeat([]impl.Rule{rAll()}, 21), slices.Repeat([]impl.Rule{rAll()}, 100000),
		inBlock(eVar("x")), inBlock(sExp(sNext())), inBlock(sExp(eVar("next"))), inBlock(sExp(eVar("length"))), inBlock(sExp(eVar("x")), sExp(eIndex("x", eNum(1)))), inBlock(sExp(eIndex("NF", eNum(1)))), inBlock(impl.Node{Kind: -1}), inBlock(impl.Node{Kind: 30}), inBlock(sIf(eVar("x"))), inBlock(sIf(eVar("x"), sNext())), inBlock(sIf(eVar("x"), sBlock(), sBlock(), sBlock())), inBlock(sWhile(eVar("x"), sExp(eVar("x")))), inBlock(eNode(impl.SFor, "k", eVar("q"))), inBlock(eNode(impl.SFor, "k", eIndex("q", eNum(1)), sBlock())), inBlock(eNode(impl.SDel, "q")), inBlock(sPrintf()), inBlock(sPrint(slices.Repeat([]impl.Node{eNum(1)}, 9)...)),
		inRule(eRe("(")), inRule(eRe("/")), inRule(eNum(-1)), inRule(eNum(1000001)), inRule(eCond(eNum(1), eNum(2), impl.Node{Kind: 99})), inRule(eNode(impl.EOr, "", eNum(1))), inRule(eNode(impl.EAnd, "&&", eNum(1), eNum(2))), inRule(eSet("=", eNum(1), eNum(2))), inRule(eSet("==", eVar("x"), eNum(2))), inRule(ePre("+", eVar("x"))), inRule(ePost("++", eNum(1))), inRule(eCall("substr")), inRule(eCall("none")), inRule(eCall("split", eVar("x"))), inRule(eCall("split", eVar("x"), eNum(1))), inRule(eCall("sub", eVar("x"))), inRule(eCall("sub", eVar("x"), eVar("y"), eNum(1))), inRule(eCall("gsub", eVar("x"), eVar("y"), eVar("z"), eVar("z"))), inRule(eCall("match", eVar("x"))), inRule(eNode(impl.EField, "")), inRule(eNode(impl.ECall, "length", eNum(1), eNum(2))),
		{{When: impl.WAll, Body: bigBody(401)}}, {deep}, inRule(heldByItself(impl.EOp, "+", 2, 1)), inRule(heldByItself(impl.ENeg, "", 1, 0)), {{When: impl.WAll, Body: heldByItself(impl.SBlock, "", 20, 7)}}, inBlock(heldByItself(impl.SFor, "k", 2, 1)), inBlock(sExp(doubled(eVar("x"), 60))),
	} {
		if units := impl.Compile(p); len(units) != 0 || impl.CodeText(p) != "" || impl.CodeSize(p) != 0 {
			t.Errorf("%d: %v, %q, %d", i, units, impl.CodeText(p), impl.CodeSize(p))
		}
	}
	if time.Since(begin) > time.Minute {
		t.Error(time.Since(begin))
	}
}

// Limits that are met exactly.
func TestCodeOfGreatPrograms(t *testing.T) {
	checkCode(t, []impl.Rule{{When: impl.WAll, Body: bigBody(400)}})
	checkCode(t, []impl.Rule{{When: impl.WAll, Body: deepNode(sBlock(), 30, func(n impl.Node) impl.Node { return sBlock(n) })}})
	for _, wrap := range []func(impl.Node) impl.Node{eNot, func(n impl.Node) impl.Node { return eOr(n, eVar("x")) }, func(n impl.Node) impl.Node { return eAnd(eVar("x"), n) }, func(n impl.Node) impl.Node { return eCond(eVar("x"), n, n) }} {
		times := 30
		if len(wrap(eVar("x")).Kids) == 3 {
			times = 6
		}
		checkCode(t, inRule(deepNode(eVar("x"), times, wrap)))
	}
	for _, wrap := range []func(impl.Node) impl.Node{func(n impl.Node) impl.Node { return sBlock(sWhile(eVar("x"), n)) }, func(n impl.Node) impl.Node { return sBlock(sFor("k", "q", n)) }, func(n impl.Node) impl.Node { return sBlock(sIf(eVar("x"), n)) }, func(n impl.Node) impl.Node { return sBlock(sIf(eVar("x"), sBlock(), n)) }} {
		checkCode(t, []impl.Rule{rBegin(), {When: impl.WEnd, Body: deepNode(sBlock(), 15, wrap)}})
	}
	one := sBlock(sExp(eOr(eVar("x"), eVar("y"))))
	checkCode(t, inBlock(sIf(eVar("x"), one, one), sWhile(eVar("y"), one), one))
	checkCode(t, slices.Repeat([]impl.Rule{rPat(eAnd(eVar("x"), eVar("y")), sFor("k", "q", sBlock(sNext())))}, 20))
	checkCode(t, inRule(eCat(eStr(bytesLong(100000)), eStr("\n\""))))
}

// Each kind of expression and of statement as each kid of each.
func TestCodeOfEachKindWithinEach(t *testing.T) {
	all := append(kindsWithin(), eCall("sub", eRe("a"), eVar("x")), eCall("gsub", eVar("x"), eRe("a"), eIndex("a", eVar("x"))), eCall("match", eVar("x"), eRe("a")), eCall("split", eVar("x"), eVar("a"), eRe("b")), eCall("sprintf", eVar("x")))
	many := 0
	for _, outer := range all {
		checkCode(t, inRule(outer))
		for i := range outer.Kids {
			for _, inner := range all {
				n := copyNode(outer)
				n.Kids[i] = inner
				p := []impl.Rule{rPat(n, sWhile(n, sBlock(sPrint(n))), sIf(n, sBlock(sDel("a", n)), sBlock(sExp(n))))}
				if impl.ProgOk(p) {
					checkCode(t, p)
					many++
				}
			}
		}
	}
	if many < 1000 {
		t.Error(many)
	}
	x := eVar("x")
	statements := []impl.Node{sExp(x), sPrint(), sPrint(x), sPrintf(x), sIf(x, sBlock()), sIf(x, sBlock(), sBlock()), sWhile(x, sBlock()), sFor("k", "a", sBlock()), sNext(), sExit(), sDel("a", x), sBlock()}
	wraps := []func(...impl.Node) impl.Node{sBlock, func(list ...impl.Node) impl.Node { return sIf(x, sBlock(list...)) }, func(list ...impl.Node) impl.Node { return sIf(x, sBlock(list...), sBlock()) }, func(list ...impl.Node) impl.Node { return sIf(x, sBlock(), sBlock(list...)) }, func(list ...impl.Node) impl.Node { return sWhile(x, sBlock(list...)) }, func(list ...impl.Node) impl.Node { return sFor("x", "a", sBlock(list...)) }}
	for _, outer := range wraps {
		for _, middle := range wraps {
			for _, a := range statements {
				for _, b := range statements {
					checkCode(t, []impl.Rule{rBegin(outer(middle(a, b), b)), rAll(a, outer(a, middle(b)), a)})
				}
			}
		}
	}
}

// Promise 11, for programs that are put together here.
func TestCodeOfMadePrograms(t *testing.T) {
	t.Parallel()
	from := rand.New(rand.NewSource(111))
	ops, places := map[int]int{}, 0
	for _, p := range append(madePrograms(112, 6000), programOfAll()) {
		p = liven(from, p)
		for _, u := range checkCode(t, p) {
			for _, steps := range [][]impl.Ins{u.Pat, u.Body} {
				for _, step := range steps {
					ops[step.Op]++
					if isJump(step.Op) && step.N == len(steps) {
						places++
					}
				}
			}
		}
	}
	for op := impl.OpNum; op <= impl.OpExit; op++ {
		if ops[op] < 100 {
			t.Errorf("%s: %d times", impl.InsText(impl.Ins{Op: op}), ops[op])
		}
	}
	if places < 100 {
		t.Errorf("just behind the last step: %d times", places)
	}
}

// A program and its text have the same code.
func TestCodeOfShownPrograms(t *testing.T) {
	from := rand.New(rand.NewSource(113))
	for _, p := range madePrograms(114, 1000) {
		p = liven(from, p)
		q, line := impl.Parse(impl.ShowProg(p))
		if line != 0 || !sameUnits(impl.Compile(p), impl.Compile(q)) || impl.CodeText(p) != impl.CodeText(q) {
			t.Errorf("%q: %d", impl.ShowProg(p), line)
		}
	}
}

// Promise 17: nothing is written into, nothing is kept, and answers share nothing.
func TestCodeIsNewAndWritesIntoNothing(t *testing.T) {
	for _, p := range roomyPrograms(t, 115, "a || b { sub(/a/, \"b\"); gsub(x, y, q[1]); split(x, q); for (k in q) if (a) b; else c }") {
		was := copyRules(p)
		first, text, size := impl.Compile(p), impl.CodeText(p), impl.CodeSize(p)
		kept := copyUnits(first)
		known := map[*impl.Ins]bool{}
		for i := range first {
			for _, steps := range [][]impl.Ins{first[i].Pat, first[i].Body} {
				all := steps[:cap(steps)]
				for k := range all {
					if known[&all[k]] {
						t.Fatalf("%q: two lists share memory", impl.ShowProg(p))
					}
					known[&all[k]] = true
					all[k] = impl.Ins{Op: -7, Text: "changed"}
				}
			}
			first[i].When = 9
		}
		if !sameUnits(impl.Compile(p), kept) || impl.CodeText(p) != text || impl.CodeSize(p) != size {
			t.Errorf("%q: something is kept", impl.ShowProg(p))
		}
		checkNotWritten(t, p, was)
	}
}
