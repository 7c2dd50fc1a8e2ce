package tests

import (
	"math"
	"math/rand"
	"slices"
	"strings"
	"testing"
	"time"

	"loop.example/g00560/impl"
)

// checkMachine holds RunCode and Steps against the chapter's words.
func checkMachine(t *testing.T, p []impl.Rule, lines []string, fuel int) impl.Result {
	t.Helper()
	want, many := wantedMachine(p, lines, fuel)
	got := impl.RunCode(p, lines, fuel)
	if got != want {
		t.Fatalf("RunCode of %.300q, %.100q with %d = %d %.300q, not %d %.300q", impl.ShowProg(p), lines, fuel, got.Code, got.Out, want.Code, want.Out)
	}
	if steps := impl.Steps(p, lines, fuel); steps != many {
		t.Fatalf("Steps of %.300q, %.100q with %d = %d, not %d", impl.ShowProg(p), lines, fuel, steps, many)
	}
	return got
}

// checkSteps tells how many steps a run takes (at most most of them). With less fuel
// it takes so many as there is fuel for: what it put out goes on from fuel to fuel.
func checkSteps(t *testing.T, p []impl.Rule, lines []string, most int) int {
	t.Helper()
	before := ""
	for fuel := range most + 1 {
		r := checkMachine(t, p, lines, fuel)
		if steps := impl.Steps(p, lines, fuel); steps != fuel || !strings.HasPrefix(r.Out, before) {
			t.Fatalf("%q with %d: %d steps, %q after %q", impl.ShowProg(p), fuel, steps, r.Out, before)
		}
		if r.Code != impl.RunFuel {
			for _, more := range []int{fuel + 1, fuel + 7, impl.MaxFuel} {
				if impl.RunCode(p, lines, more) != r || impl.Steps(p, lines, more) != fuel {
					t.Fatalf("%q ends with %d, but other than with %d", impl.ShowProg(p), fuel, more)
				}
			}
			return fuel
		}
		before = r.Out
	}
	return most
}

// checkSame is promise 12: where MaxFuel / 8 is enough for a run, the machine puts
// out what that does, and ends as it does. It tells that code.
func checkSame(t *testing.T, p []impl.Rule, lines []string) int {
	t.Helper()
	want := impl.Run(p, lines, impl.MaxFuel/8)
	if want.Code == impl.RunFuel {
		return impl.RunFuel
	}
	_, _, taken := wantedFuel(p, lines, impl.MaxFuel/8)
	for _, fuel := range []int{taken * 8, impl.MaxFuel} {
		if got := impl.RunCode(p, lines, fuel); got != want {
			t.Fatalf("RunCode of %.300q, %.100q with %d = %d %.300q, but Run = %d %.300q", impl.ShowProg(p), lines, fuel, got.Code, got.Out, want.Code, want.Out)
		}
	}
	return want.Code
}

// checkWays holds what a program puts out, and its code, by both ways, and with each
// fuel.
func checkWays(t *testing.T, s string, code int, out string, lines ...string) {
	t.Helper()
	checkEnd(t, s, code, out, lines...)
	p := mustProg(t, s)
	checkSteps(t, p, lines, 200)
	if got := checkSame(t, p, lines); got != code {
		t.Errorf("%q = %d, not %d", s, got, code)
	}
}

func checkBeginWays(t *testing.T, s string, out string) {
	t.Helper()
	checkWays(t, "BEGIN { "+s+" }", impl.RunOk, out)
}

// How many steps each expression and statement takes. A rule that is begun, its
// pattern's value and a block take none.
func TestStepsOfEach(t *testing.T) {
	cases := map[string]int{
		"": 0, "{ }": 0, "{ { } { } }": 0, "{ x } y": 4, "x": 2, "1": 2, `"a"`: 2, "/a/": 2, "$1": 3, "$$1": 4, "a[1]": 3, "a[a[1]]": 4, "NF": 2,
		"x = 1": 3, "a[1] = 1": 4, "$1 = 1": 4, "$(1 + 1) = 1": 6, "x += 1": 3, "a[1] += 1": 4, "$x /= 1": 4, "NF = 1": 3, "$0 = 1": 4, "x = y = 1": 4, "a[b[1]] = 1": 5, "$$1 = 1": 5, "a[x = 1] = y": 5, "x = a[1]": 4,
		"x++": 2, "--x": 2, "++a[1]": 3, "a[1]--": 3, "$1++": 3, "++$(x + 1)": 5, "NF++": 2, "$x++": 3, "$(x++)": 3, "a[$1]++": 4,
		// The jump ahead of what does not count is a step, too.
		"1 ? 2 : 3": 5, "0 ? 2 : 3": 4, "0 ? 2 : 3 + 4": 6, "1 ? 2 + 3 : 4": 7, "1 || 2": 5, "0 || 2": 5, "0 || 0": 5, "1 && 2": 6, "0 && 2": 4, "1 && 0": 6, "0 || 0 || 1": 8, "1 || 0 || 1": 8, "1 || (0 || 1)": 5, "0 && 0 && 1": 6,
		"1 in a": 3, "x in a in b": 4, "1 < 2": 4, "1 2": 4, "1 + 2 * 3": 6, "!1": 3, "-1": 3, "- -1": 4, "!(1)": 3, "2 ^ -x": 5, "/a/ + /b/": 4,
		// The Text of an ERe is put by a step.
		"x ~ /a/": 4, "x !~ /a/": 4, `x ~ "a"`: 4, "x ~ y": 4, "/a/ ~ /b/": 4, "x ~ (/a/ (/b/))": 6, "x ~ !/a/": 5,
		"length()": 2, "length(x)": 3, "substr(x, 1)": 4, "substr(x, 1, 2)": 5, "index(x, y)": 4, "tolower(x)": 3, "toupper(/a/)": 3, "int(1)": 3, "sprintf(x)": 3, "sprintf(/a/, 1, 2)": 5, "sprintf(x, 1, 2, 3, 4, 5, 6, 7)": 10, "match(x, /a/)": 4, `match(x, "a")`: 4,
		// An array's name is put by none, the place that is not told by one.
		"split(x, a)": 3, "split(x, a, /b/)": 4, `split(x, a, "b")`: 4, "split(/a/, a, y z)": 6, "sub(/a/, x)": 5, `gsub("a", x)`: 5, "sub(/a/, x, y)": 4, "gsub(/a/, /b/, y)": 4, "sub(/a/, x, a[1])": 5, "sub(/a/, x, $1)": 5, "gsub(/a/, x, $(1 + 1))": 7, "sub(/a/, x, NF)": 4, "gsub(x = 1, y, a[/b/])": 6,
		"print": 1, "print 1": 2, "print 1, x, $1": 5, "print 1, 2, 3, 4, 5, 6, 7, 8": 9, `printf "a"`: 2, `printf "%s", x`: 3, "print x = 1": 3,
		"if (1) x": 4, "if (0) x": 2, "if (1) { }": 2, "if (0) x; else { }": 2, "if (1) x; else y": 5, "if (1) { } else x": 3, "if (0) x; else y z": 6, "if (1) { } else { }": 3, "if (x) { } else if (y) { } else { }": 4, "if (1) { if (1) { } }": 4,
		"while (0) { }": 2, "while (0) x": 2, "while (i++ < 2) { }": 14, "while (i++ < 2) x": 18, "while (i < 1) { i++ }": 11,
		"for (k in a) { }": 2, "a[1]; a[2]; for (k in a) { }": 12, "a[1]; for (k in a) print k": 9, "a[1]; a[2]; for (k in a) for (l in a) { }": 24, "a[1]; for (k in a) for (l in b) x": 9,
		"next": 1, "exit": 1, "next; x": 1, "x; exit; y": 3, "while (1) next": 3, "a[1]; for (k in a) exit": 6, "a[1]; for (k in a) for (l in a) next": 8, "delete a[1]": 2, "delete a[x y]": 4,
	}
	for s, want := range cases {
		for head, more := range map[string]int{"BEGIN": 0, "END": 0, "": 0, "1": 1, "/a/": 1, "$1 ~ /a/": 4, "x || 1": 4} {
			p := mustProg(t, head+" { "+s+" }")
			if got := checkSteps(t, p, []string{"a"}, 60); got != want+more {
				t.Errorf("%s { %s } takes %d, not %d", head, s, got, want+more)
			}
			if want+more > 0 && impl.RunCode(p, []string{"a"}, want+more-1).Code != impl.RunFuel {
				t.Errorf("%s { %s } ends with less", head, s)
			}
			checkSame(t, p, []string{"a"})
		}
	}
}

func TestStepsOfRules(t *testing.T) {
	cases := []struct {
		s     string
		lines int
		want  int
	}{
		{"{ print }", 0, 0}, {"1", 0, 0}, {"/a/ { x } { y }", 0, 0}, {"BEGIN { }", 0, 0}, {"END { }", 5, 0}, {"{ }", 7, 0}, {"{ } { }", 1000, 0}, {"1", 4, 8}, {"1 { }", 4, 4}, {"0", 4, 4}, {"{ } { } 0", 3, 3}, {"{ x }", 3, 6}, {"BEGIN { } { x } END { y }", 2, 6}, {"NR == 2 { exit } { }", 9, 7}, {"{ next } { x } { y }", 5, 5}, {"BEGIN { exit } { x } END { }", 5, 1}, {"BEGIN { next } BEGIN { x } { }", 2, 1}, {"END { next } END { x }", 3, 1}, {"{ } 0 { x }", 100, 100}, {"x || 1 { a && b }", 3, 24},
	}
	for _, c := range cases {
		p, lines := mustProg(t, c.s), slices.Repeat([]string{"a"}, c.lines)
		if got := checkSteps(t, p, lines, 3000); got != c.want {
			t.Errorf("%s takes %d, not %d", c.s, got, c.want)
		}
		checkSame(t, p, lines)
	}
	// Where fuel ends, what was put out till then stands beside the code.
	p := mustProg(t, "BEGIN { print 1; print 2 } { print } END { print 3 }")
	outs := []string{"", "", "1\n", "1\n", "1\n2\n", "1\n2\na\n", "1\n2\na\nb\n", "1\n2\na\nb\n", "1\n2\na\nb\n3\n"}
	for fuel, out := range outs {
		code := impl.RunFuel
		if fuel == len(outs)-1 {
			code = impl.RunOk
		}
		if r := impl.RunCode(p, []string{"a", "b"}, fuel); r.Code != code || r.Out != out || impl.Steps(p, []string{"a", "b"}, fuel) != fuel {
			t.Errorf("%d: %v", fuel, r)
		}
	}
}

func TestStepsOfMaxFuel(t *testing.T) {
	for s, want := range map[string]int{"BEGIN { print; while (i++ < 19999) { } }": impl.RunOk, "BEGIN { print; print; while (i++ < 19999) { } }": impl.RunFuel, "BEGIN { print; while (1) { } }": impl.RunFuel, "BEGIN { print; while (i++ < 19998) { } print 1 / 0 }": impl.RunNum, "BEGIN { print; while (i++ < 19999) { } } END { print 1 }": impl.RunFuel} {
		p := mustProg(t, s)
		r := checkMachine(t, p, nil, impl.MaxFuel)
		if r.Code != want || want != impl.RunNum && impl.Steps(p, nil, impl.MaxFuel) != impl.MaxFuel {
			t.Errorf("%s: %d, %d steps", s, r.Code, impl.Steps(p, nil, impl.MaxFuel))
		}
		if less := checkMachine(t, p, nil, impl.MaxFuel-1); want == impl.RunOk && less.Code != impl.RunFuel {
			t.Errorf("%s: %d", s, less.Code)
		}
	}
	// A run that takes just MaxFuel / 8.
	p := mustProg(t, "BEGIN { x; print; while (i++ < 3123) { } print \"\" }")
	if r := impl.Run(p, nil, impl.MaxFuel/8+2); r.Code != impl.RunOk || impl.Run(p, nil, impl.MaxFuel/8+1).Code != impl.RunFuel {
		t.Error(r.Code)
	}
	p = mustProg(t, "BEGIN { x; print; while (i++ < 3123) { } }")
	if r := impl.Run(p, nil, impl.MaxFuel/8); r != (impl.Result{Out: "\n"}) || impl.Run(p, nil, impl.MaxFuel/8-1).Code != impl.RunFuel {
		t.Error(r.Code)
	}
	checkSame(t, p, nil)
	for _, s := range []string{"x && 1", "1 && 1", "sub(/a/, /b/)", "1 && sub(/a/, /b/) && 1", "split(/a/, q, /b/)", "if (1 && 1) { }", "a[1]; for (k in a) { }", "1 ? 1 && 1 : 0"} {
		p := mustProg(t, "BEGIN { while (i++ < N) { "+s+" } print i }")
		for most := 3000; ; most -= 10 {
			p[0].Body.Kids[0].Kids[0].Kids[1] = eNum(most)
			if code := checkSame(t, p, nil); code == impl.RunOk {
				break
			}
			if most < 100 {
				t.Fatal(s)
			}
		}
	}
}

// What a step takes, and what it puts: there is one value more between those that
// stand beside it, which stay, and so there is in what it is a kid of.
func TestWhatStepsTakeAndPut(t *testing.T) {
	const begin = `x = 5; z = 2; s = "abc"; a[1] = 7; a["k"] = "v"; $0 = "p 8 q"; `
	for s, want := range map[string]string{
		"1.5": "1.5", `"t"`: "t", "/p/": "1", "/z/": "0", "x": "5", "u": "", "NF": "3", "NR": "0", "$2": "8", "$9": "", "$0": "p 8 q", "$(z)": "8", "a[1]": "7", `a["k"]`: "v", "a[9]": "", "a[a[9]]": "",
		"x = 3": "3", "x -= 3": "2", "a[1] = 3": "3", "a[1] -= z": "5", "$2 = 3": "3", "$2 -= z": "6", "$0 = 3": "3", "NF = 1": "1", "NF -= 1": "2", "x = z = 4": "4", "a[x] = $2 = a[1]": "7", "a[z - 1] /= a[1] - 5": "3.5",
		"x++": "5", "++x": "6", "x--": "5", "--x": "4", "a[1]++": "7", "++a[1]": "8", "a[1]--": "7", "--a[1]": "6", "$2++": "8", "++$2": "9", "$2--": "8", "--$2": "7", "NF++": "3", "++NF": "4", "NF--": "3", "--NF": "2", "$0++": "0", "--$0": "-1", "u++": "0", "++u": "1", "a[2]--": "0", "--a[2]": "-1", "a[z++]++": "0",
		"x ? 1 : 2": "1", "u ? 1 : 2": "2", "x || u": "1", "u || x": "1", "u || u": "0", "x && z": "1", "x && u": "0", "u && x": "0", "u ? 1 : x && u ? 2 : 3": "3",
		"1 in a": "1", "2 in a": "0", "!x": "0", "!u": "1", "-x": "-5", "-u": "0",
		// The second one is on top.
		"x - z": "3", "z - x": "-3", "x / z": "2.5", "x % z": "1", "z ^ x": "32", "x ^ z": "25", "x + z": "7", "x * z": "10", "x z": "52", "(x < z)": "0", "(z < x)": "1", "(x <= z)": "0", "(x > z)": "1", "(x >= z)": "1", "(x == z)": "0", "(x != z)": "1", "s ~ /b/": "1", "s !~ /b/": "0", `s ~ "^b"`: "0", `"b" ~ s`: "0", "(9 - z) - (x - 1)": "3", "2 ^ 3 ^ z": "512", "x z x": "525",
		"length()": "5", "length(s)": "3", "substr(s, z)": "bc", "substr(s, z, 1)": "b", `index(s, "c")`: "3", `index("c", s)`: "0", "tolower(\"AB\")": "ab", "toupper(s)": "ABC", "int(x / z)": "2", "match(s, /c/)": "3", `match("c", s)`: "0", "sprintf(\"%s\")": "", `sprintf("%d-%s", x, s)`: "5-abc", "sprintf(x)": "5", `sprintf("%s%s%s%s%s%s%s", x, z, 3, 4, 5, 6, 7)`: "5234567",
		"split($0, b)": "3", "split(s, b, /b/)": "2", `split(s, b, "")`: "3", "split(s, a, u)": "3", `sub(/p/, "w")`: "1", `gsub(/[pq]/, "w")`: "2", `sub(/b/, "w", s)`: "1", `gsub(/./, "&", s)`: "3", `sub(7, "w", a[1])`: "1", `gsub(/z/, "w", a["k"])`: "0", `sub(/8/, x, $2)`: "1", `gsub(x - 2, z, NF)`: "1",
	} {
		checkBeginWays(t, begin+"print \"<\", "+s+", \">\"", "< "+want+" >\n")
		checkBeginWays(t, begin+"b[1] = \"<\"; printf \"%s|%s|%s\", b[1], "+s+", \">\"", "<|"+want+"|>")
		// As a pattern's code, whose value counts.
		truth := ""
		if want != "" && want != "0" {
			truth = "1\n"
		}
		checkWays(t, "{ "+begin+"NR = 0 } ("+s+") { print 1 }", impl.RunOk, truth, "")
	}
}

// What steps take is gone behind them: places that they stand in, and what they give.
func TestWhatStepsGive(t *testing.T) {
	for s, want := range map[string]string{
		"$0 = \"a b c\"; $2 = \"q\"; print; $5 = $2 $1; print; print NF": "a q c\na q c  qa\n5\n", "a[1] = 2; a[a[1]] = 3; a[a[a[1]]]++; for (k in a) print k, a[k]": "1 2\n2 3\n3 1\n", "i = 1; $i++ + $++i; print; print i": "1\n2\n", "i = 1; a[i++] = a[i++] = i++; for (k in a) print k, a[k]; print i": "2 3\n1 3\n4\n",
		"x = y = z = 4; x += y -= z *= 2; print x, y, z": "0 -4 8\n", "x = 1; x += (x = 5) * 2; print x": "15\n", "x = \"a\"; x = x (x = \"b\") x; print x": "abb\n", "x = 1; y = x++ + ++x + x--; print x, y": "2 7\n", "NF = 3; $NF = NF; print; $(NF--)--; print; print NF": "  3\n  -1\n3\n",
		// sub and gsub at each place.
		"$0 = \"a b a\"; print sub(/a/, \"x\"), $0, gsub(/a|b/, \"&&\"), $0": "1 x b a 2 x bb aa\n", "x = \"aba\"; print sub(/a/, \"y\", x), x, gsub(\"a|b\", \"<&>\", x), x, sub(/z/, \"\", x), x": "1 yba 2 y<b><a> 0 y<b><a>\n", "a[1] = \"aba\"; i = 1; print gsub(/a/, i, a[i++]), a[1], i, sub(/z/, \"\", a[9]), (9 in a)": "2 1b1 2 0 1\n", "$0 = \"a b a\"; i = 1; print sub(/b/, \"q r\", $++i), $0, NF, gsub(/q/, \"\", $2), $2 \"|\", NF": "1 a q r a 3 1  r| 3\n", "$0 = \"a b c\"; print sub(3, 1, NF), $0, sub(/a/, 5, $0), $0": "1 a 1 5\n", "NR = 12; print gsub(/./, 3, NR), NR + 1": "2 34\n", "x = \"a\"; print sub(x = \"b\", x = \"c\", x), x": "0 c\n", "x = \"b\"; print sub(x = \"b\", \"c\", x), x": "1 c\n",
		// split with a third one and without.
		"print split(\"a b,c\", q), q[1] q[2], split(\"a b,c\", q, \",\"), q[1] q[2], (3 in q)": "2 ab,c 2 a bc 0\n", "FS = \",\"; print split(\"a b,c\", q), q[1], split(\"a b,c\", q, / /), q[1], split(\"a b,c\", q, \" \"), q[2]": "2 a b 2 a 2 b,c\n", "q[1] = \"x y\"; print split(q[1], q), q[1] q[2], split(q[2], q, q[1]), q[1]": "2 xy 1 y\n", "n = split(split(\"a b c\", q) 4, r, \"\"); print n, r[1], r[2], q[3]": "2 3 4 c\n", "print split(\"\", q, 1 + 1) split(\"\", q), split(\"x\", q, \"(\")": "00 1\n",
		"a[1]; a[2]; a[3]; delete a[1 + 1]; print (1 in a) (2 in a) (3 in a); delete a[9]; delete b[1]; delete a[a[4]]; for (k in a) print k": "101\n1\n3\n4\n", "print match(\"xab\", /ab*/) RSTART RLENGTH, match(\"x\", \"y\") RSTART RLENGTH": "222 00-1\n", "print 1, (OFS = \"-\"), 2; ORS = \"!\"; print; print 1, 2; printf \"%s\", 3": "1---2\n!1-2!3",
		"1; \"a\"; u; $1; a[1]; print 1": "1\n", "print u; print u, u; print; printf u; printf \"\"; print \"e\"": "\n \n\ne\n",
	} {
		checkBeginWays(t, s, want)
	}
}

// Jumps: to places within a code, and just behind its last step.
func TestJumpsOfMachine(t *testing.T) {
	for s, want := range map[string]string{
		"if (1) print 1": "1\n", "if (0) print 1": "", "if (u) { } else print 2": "2\n", "if (1) { } else print 2": "", "if (1) print 1; else { }": "1\n", "if (0) print 1; else if (\"\") print 2; else if (\"0\") print 3; else print 4": "3\n", "if (1) if (0) print 1": "", "if (1) if (0) print 1; else print 2": "2\n", "if (0) { if (1) print 1 } else print 2": "2\n", "print 1; if (0) print 2; print 3": "1\n3\n",
		"while (0) print 1": "", "while (i++ < 3) print i": "1\n2\n3\n", "while (i++ < 2) { j = 0; while (j++ < 2) print i j } print i, j": "11\n12\n21\n22\n3 3\n", "while (i++ < 3) if (i != 2) print i": "1\n3\n", "while (i++ < 2) if (i == 1) { } else { }": "", "while (u || i < 2 && 1) { i++ } print i": "2\n", "while (x != \"aa\") x = x \"a\"; print x": "aa\n", "if (1) while (i++ < 2) print i; else print 9": "1\n2\n", "while (1 ? i++ < 2 : 1) { }": "",
		"1 ? x = 1 : (y = 1); 0 ? z = 1 : (v = 1); print x y z v": "11\n", "0 || (x = 1); 1 || (y = 1); 0 && (z = 1); 1 && (v = 1); print x, y, z, v": "1   1\n", "print 0 || u || \"a\", 1 && u && 1, u && (u || 1), (0 || 3) && 4": "1 0 0 1\n", "x = u && a[1]; y = 1 || a[2]; z = 1 ? 2 : a[3]; for (k in a) print k": "", "print (x = 1) && (y = 0) || (z = 5), x, y, z": "1 1 0 5\n",
	} {
		checkBeginWays(t, s, want)
		checkWays(t, "{ "+s+" }", impl.RunOk, want, "")
		checkWays(t, "u || 1 { "+s+" } { }", impl.RunOk, want, "")
		checkWays(t, "END { "+s+" } END { print \"!\" }", impl.RunOk, want+"!\n")
	}
	// A pattern's code that ends behind its last step by a jump.
	for pat, want := range map[string]string{"$1 && $2": "1\n4\n", "$1 || $2": "1\n2\n3\n4\n", "$1 ? $2 : !$2": "1\n4\n5\n", "/x/ || /y/": "1\n3\n4\n", "!($1 && $2)": "2\n3\n5\n", "$1 ~ /x/ && $2 ~ /y/": "1\n", "x = $1 && $2": "1\n4\n", "($1 ? 1 : 0) ? ($2 ? 1 : 0) : 0": "1\n4\n", "u": "", "\"0\"": "1\n2\n3\n4\n5\n", "$2": "1\n3\n4\n", "n++": "2\n3\n4\n5\n", "$1 = 0": ""} {
		checkWays(t, pat+" { print NR }", impl.RunOk, want, "x y", "1", "0 x", "y 2", "")
	}
	checkWays(t, "BEGIN { x; $1 } $1 { print 1; next } $2 || 1 { print 2; if ($2) exit; else x } { print 3 } END { print 4 } END { x }", impl.RunOk, "1\n2\n3\n2\n4\n", "a", "0", "0 1", "a")
}

func TestKeysOfMachine(t *testing.T) {
	for s, want := range map[string]string{
		// An array without elements: the block is not run, and its variable stays.
		"for (k in a) print 1": "", "k = 7; for (k in a) { } print k": "7\n", "a[1]; delete a[1]; for (k in a) print 1; print 2": "2\n", "for (k in a) for (l in b) print 1; print 2": "2\n", "b[1]; for (k in a) for (l in b) print 1": "", "a[1]; for (k in a) { print k; for (l in b) print l; print \"e\" }": "1\ne\n",
		"a[2]; a[1]; a[\"x\"]; for (k in a) print k; print k": "2\n1\nx\nx\n", "a[10]; for (k in a) print (k < 9), (k > 9)": "1 0\n", "a[1]; a[2]; for (k in a) k = k \"x\"; print k": "2x\n", "a[1]; a[2]; for (NF in a) printf NF \".\"; print $0 \"|\"": "1.2. |\n", "a[1]; a[2]; for (NR in a) { } print NR + 1": "3\n", "a[\"-\"]; a[\"+\"]; for (OFS in a) print 1, 2": "1-2\n1+2\n",
		// One list within another one, and a third one.
		"a[1]; a[2]; for (k in a) for (l in a) printf k l \" \"": "11 12 21 22 ", "a[1]; a[2]; for (k in a) for (k in a) printf k; print k": "12122\n", "a[1]; a[2]; b[3]; b[4]; for (k in a) { for (l in b) printf k l \" \"; printf k \". \" }": "13 14 1. 23 24 2. ", "a[1]; a[2]; for (k in a) for (l in a) for (m in a) printf k l m \" \"": "111 112 121 122 211 212 221 222 ", "a[1]; a[2]; b[3]; for (k in a) { for (l in b) printf l; for (m in a) printf m; for (n in c) printf n }": "312312", "a[1]; a[2]; for (k in a) { i = 0; while (i++ < 2) for (l in a) printf k i l \" \" }": "111 112 121 122 211 212 221 222 ", "while (i++ < 2) for (k in a) print k; a[1]; while (j++ < 2) for (k in a) print k j": "11\n12\n", "a[1]; a[2]; for (k in a) { } for (k in a) printf k": "12", "a[1]; a[2]; for (k in a) if (k == 1) for (l in a) printf l; else printf \"e\"": "12e",
		// It goes by the keys that the array has when it begins.
		"a[1]; a[2]; a[3]; for (k in a) { delete a[2]; printf k } for (k in a) printf k": "12313", "a[1]; a[2]; for (k in a) { delete a[1]; delete a[2]; printf k (k in a) }": "1020", "a[1]; a[2]; for (k in a) { a[k + 2]; printf k } printf \" \"; for (k in a) printf k": "12 1234", "a[1]; a[2]; for (k in a) { split(\"x y z\", a); printf k } for (k in a) printf a[k]": "12xyz", "a[1]; a[2]; for (k in a) { delete a[k]; a[k]; printf k } for (k in a) printf k": "1212", "a[1]; a[2]; for (k in a) { delete a[1]; a[1]; printf k } for (k in a) printf k": "1221", "a[1]; a[2]; a[3]; for (k in a) { if (k == 2) a[4] = 1; printf k }": "123",
		// The inner list is of what the array has then, the outer one stays.
		"a[1]; for (k in a) { a[2]; for (k in a) printf k \".\"; printf k \"!\" }": "1.2.2!", "a[1]; a[2]; a[3]; for (k in a) { for (l in a) printf l; printf \" \"; delete a[k] }": "123 23 3 ", "a[1]; a[2]; for (k in a) { for (l in a) { delete a[l]; printf l } printf k \" \" }": "121 2 ", "a[1]; a[2]; for (k in a) { n = 0; for (l in a) { a[k l]; n++ } printf k n \" \" } n = 0; for (k in a) n++; print n": "12 24 8\n", "a[1]; a[2]; for (k in a) { for (l in a) split(\"p q r\", a); printf k; for (l in a) printf l }": "11232123",
		// Values that stand on the stack stay where they are.
		"a[3]; a[4]; for (k in a) n += k * 2 + length(k) - (k in a); print n": "14\n", "a[1]; a[2]; for (k in a) print k, k + 1 (k && k), substr(k k, 2)": "1 21 1\n2 31 2\n",
	} {
		checkBeginWays(t, s, want)
		checkWays(t, "1 { "+s+" } END { print \"!\" }", impl.RunOk, want+"!\n", "")
	}
	checkWays(t, "{ for (k in a) print NR, k; a[$1]++ } END { for (k in a) for (l in a) print k, l, a[k] }", impl.RunOk, "2 x\n3 x\n3 y\nx x 2\nx y 2\ny x 1\ny y 1\n", "x", "y", "x")
}

// Code that ends within loops: what it leaves is none of the next one's.
func TestCodeThatEndsWithinLoops(t *testing.T) {
	const fill = "BEGIN { a[1]; a[2]; a[3]; b[7]; b[8] } "
	for s, want := range map[string]string{
		"{ for (k in a) { print k; next } } { print 9 }": "1\n1\n1\n", "{ for (k in a) if (k == NR) { print k; next } } { print 9 }": "1\n2\n3\n", "{ for (k in a) for (l in b) { print k l; next } }": "17\n17\n17\n", "{ for (k in a) { for (l in b) if (k == NR && l == 8) { print k l; next } } print 9 }": "18\n28\n38\n", "{ for (k in a) { for (l in b) { } if (k == 2) { print k; next } } }": "2\n2\n2\n",
		"{ for (k in a) next } END { for (k in b) for (l in a) printf k l \" \" }": "71 72 73 81 82 83 ", "{ for (k in a) for (l in a) next } { print 9 } END { for (k in b) printf k; for (k in c) printf k }": "78", "NR == 1 { for (k in a) { a[k + 5]; next } } { for (k in a) printf k \" \" }": "1 2 3 6 1 2 3 6 ", "{ while (1) for (k in a) next } END { for (k in a) printf k }": "123",
		"{ for (k in a) { print k; exit } } END { for (k in b) print k }": "1\n7\n8\n", "{ for (k in a) for (l in b) { print k l; exit } print 9 } END { for (k in a) for (l in b) printf k l \" \" }": "17\n17 18 27 28 37 38 ", "END { for (k in a) for (l in b) { print k l; exit } } END { print 9 }": "17\n", "END { for (k in a) { print k; next } } END { print 9 }": "1\n", "BEGIN { for (k in a) { for (l in a) if (l == 2) exit; print 9 } } { print 8 } END { print k l }": "12\n", "BEGIN { for (k in a) if (k == 2) next } BEGIN { print 9 } { print k; for (k in b) { } }": "2\n8\n8\n",
		// Where a pattern stands behind such a rule.
		"{ for (k in a) if (NR < 3) next } NR && k { for (l in b) print k l }": "37\n38\n", "k ? k == NR : 1 { print NR; for (k in a) for (m in a) if (k == 2) next }": "1\n2\n",
	} {
		checkWays(t, fill+s, impl.RunOk, want, "x", "y", "z")
	}
	// An end with a code, too, goes past what is begun.
	checkWays(t, fill+"{ for (k in a) for (l in b) { print k l; x = 1 / (8 - l) } } END { print 9 }", impl.RunNum, "17\n18\n", "x", "y")
}

func TestNextAndExitOfMachine(t *testing.T) {
	lines := []string{"a 1", "b 2", "c 3"}
	for s, want := range map[string]string{
		"BEGIN { print 1; next; print 2 } BEGIN { print 3 } { print NR } END { print 4 }": "1\n1\n2\n3\n4\n", "BEGIN { print 1; exit; print 2 } BEGIN { print 3 } { print 4 } END { print 5, NR, NF }": "1\n5 0 0\n", "BEGIN { exit } END { print 1; next; print 2 } END { print 3 }": "1\n", "BEGIN { next } END { exit } END { print 1 }": "",
		"{ print 1; next; print 2 } { print 3 }": "1\n1\n1\n", "{ print 1; exit; print 2 } { print 3 } END { print 4, NR }": "1\n4 1\n", "{ if (NR == 2) next; print NR } { print $1 } END { print 9 }": "1\na\n3\nc\n9\n", "{ if (NR == 2) exit; print NR } { print $1 } END { print 9, $1 }": "1\na\n9 b\n", "{ while (1) { print NR; next } } { print 9 }": "1\n2\n3\n", "{ while (1) if (n++ == 2) exit } END { print n, NR }": "3 1\n",
		"NR == 2 { next } { print NR }": "1\n3\n", "NR == 2 { exit } { print NR } END { print \"e\", NR, $1 }": "1\ne 2 b\n", "/b/ { next } $2 { print $2 } END { print NR }": "1\n3\n3\n", "NR > 1 { print; exit; print 9 } 1\nEND { print 8 }": "a 1\nb 2\n8\n",
		"END { print 1; next; print 2 } END { print 3 } { print NR }": "1\n2\n3\n1\n", "END { print 1; exit; print 2 } END { print 3 }": "1\n", "{ exit } END { print 1; exit } END { print 2 }": "1\n", "{ next } END { print NR, $0 } END { next } END { print 2 }": "3 c 3\n",
	} {
		checkWays(t, s, impl.RunOk, want, lines...)
	}
}

// Each code that a run may end with: what was put out till then, and its steps.
func TestCodesOfMachine(t *testing.T) {
	cases := []struct {
		s     string
		code  int
		out   string
		steps int
	}{
		{"BEGIN { print 1 } END { print 2 }", impl.RunOk, "1\n2\n", 4}, {"{ }", impl.RunOk, "", 0}, {"{ print; next } END { exit }", impl.RunOk, "a\nb\n", 5},
		{"BEGIN { print 1; x = 1 / 0; print 2 } END { print 3 }", impl.RunNum, "1\n", 5}, {"{ print; $1++; x = NR % (NR - 2) } END { print 3 }", impl.RunNum, "a\nb\n", 20}, {"1 / (NR - 2)\n{ print 9 }", impl.RunNum, "a\n9\n", 13}, {"BEGIN { x = 1000000; print 1; x++ }", impl.RunNum, "1\n", 6}, {"BEGIN { -x; 2 ^ 0.5 }", impl.RunNum, "", 6}, {"END { print NR / $2 }", impl.RunNum, "", 4},
		// Of these no step is at fault, but what is ahead of a line.
		{"BEGIN { NR = 1000000 } { print }", impl.RunNum, "", 3}, {"BEGIN { NR = 999999 } { print } END { print }", impl.RunNum, "a\n", 4},
		{"BEGIN { print 1; x ~ \"(\"; print 2 } { print 3 }", impl.RunRe, "1\n", 5}, {"{ print 1; sub(\"(\", 2) } END { print 3 }", impl.RunRe, "1\n", 6}, {"$1 ~ (\"(\" $1) { print 1 } END { print 2 }", impl.RunRe, "", 7}, {"END { print 1; match(1, \"[\") }", impl.RunRe, "1\n", 5}, {"{ print; gsub(\"*\", \"\", x) }", impl.RunRe, "a\n", 4},
		{"BEGIN { print 1; $61 }", impl.RunFull, "1\n", 4}, {"{ print; NF = -1 } END { print 2 }", impl.RunFull, "a\n", 4}, {"BEGIN { a[61]; print 1; for (NF in a) print 2 }", impl.RunFull, "1\n", 7}, {"$(60 + NR) { } END { print 1 }", impl.RunFull, "", 4}, {"{ print 1; printf \"%\" }", impl.RunFull, "1\n", 4}, {"END { print 1, sprintf(\"%\"); print 2 }", impl.RunFull, "", 3}, {"BEGIN { $60 = 1; print NF; NF++ }", impl.RunFull, "60\n", 7}, {"{ print $1; sub(/a/, \"b\", $(-1)) }", impl.RunFull, "a\n", 8},
	}
	lines := []string{"a", "b"}
	for _, c := range cases {
		p := mustProg(t, c.s)
		checkWays(t, c.s, c.code, c.out, lines...)
		if got := checkSteps(t, p, lines, 100); got != c.steps {
			t.Errorf("%s takes %d, not %d", c.s, got, c.steps)
		}
		for _, fuel := range []int{-1, impl.MaxFuel + 1} {
			checkNone(t, p, lines, fuel)
		}
	}
	for fuel, out := range map[int]string{0: "", 1: "", 2: "", 3: "", 4: "1\n", 50: strings.Repeat("1\n", 10), 51: strings.Repeat("1\n", 10), 1000: strings.Repeat("1\n", 200)} {
		p := mustProg(t, "BEGIN { while (1) print 1 } END { print 2 }")
		if r := checkMachine(t, p, nil, fuel); r.Code != impl.RunFuel || r.Out != out || impl.Steps(p, nil, fuel) != fuel {
			t.Errorf("%d: %v", fuel, r)
		}
	}
	for s, out := range map[string]string{"BEGIN { ORS = \"\"; while (1) print \"1234567\" }": strings.Repeat("1234567", 2857), "BEGIN { while (1) print a[i++] = 1 }": strings.Repeat("1\n", 200)} {
		p := mustProg(t, s)
		if r := checkMachine(t, p, nil, impl.MaxFuel); r.Code != impl.RunFull || r.Out != out {
			t.Errorf("%s: %v", s, r)
		}
	}
}

// What is no run by the chapter before is none here.
func TestMachineNone(t *testing.T) {
	p := mustProg(t, "BEGIN { print 1 } { print } END { print 2 }")
	for _, bad := range [][]impl.Rule{nil, {}, {{}}, inRule(sNext()), inBlock(eVar("x")), inRule(eRe("(")), inRule(eCall("substr")), inBlock(sExp(eVar("x")), sExp(eIndex("x", eNum(1)))), slices.Repeat([]impl.Rule{rAll()}, 21), {{When: impl.WAll, Body: bigBody(401)}}} {
		checkNone(t, bad, nil, 100)
		checkNone(t, bad, []string{"a"}, 0)
	}
	for _, bad := range [][]string{{"\n"}, {"a\n"}, {"a", "\nb"}, {bytesLong(2001)}, {"a", bytesLong(100000)}, make([]string, 1001)} {
		checkNone(t, p, bad, 100)
		checkNone(t, p, bad, 0)
		checkNone(t, p, bad, impl.MaxFuel)
	}
	for _, fuel := range []int{-1, -2, impl.MaxFuel + 1, math.MinInt, math.MaxInt} {
		checkNone(t, p, nil, fuel)
		checkNone(t, p, []string{"a"}, fuel)
	}
	// Limits that are met exactly.
	for _, good := range goodLines() {
		for _, fuel := range []int{0, 1, 2, 1003, 1004, impl.MaxFuel} {
			checkMachine(t, p, good, fuel)
		}
		if got := impl.Steps(p, good, impl.MaxFuel); got != 4+len(good) {
			t.Errorf("%d lines: %d steps", len(good), got)
		}
	}
	for _, p := range [][]impl.Rule{mustProg(t, strings.Repeat("{ x }\n", 20)), {{When: impl.WAll, Body: bigBody(400)}}} {
		if r := checkMachine(t, p, []string{"a", "b"}, impl.MaxFuel); r.Code != impl.RunOk {
			t.Error(r.Code)
		}
	}
}

// A text of a program may be longer than MaxText: what comes about of it may not.
func TestMachineOfLongTexts(t *testing.T) {
	x := eVar("x")
	for _, size := range []int{1999, 2000, 2001, 3999, 4000, 4001, 20000, 1000000, 1000001} {
		long := eStr(bytesLong(size))
		for _, e := range []impl.Node{long, eCat(long, eStr("")), eCat(eStr("b"), long), eCall("toupper", long), eCall("substr", long, eNum(2)), eCall("sprintf", long), eCall("length", long), eSet("=", x, long), eSet("=", eField(eNum(0)), long), eSet("=", eField(eNum(2)), long), eCall("split", long, eVar("a"), eStr("z")), eCall("sub", eRe("a"), eStr("bb"), eIndex("a", long)), eMatch("~", x, long), eMatch("~", long, eRe("b"))} {
			p := []impl.Rule{rBegin(sExp(e), sPrint(x))}
			checkMachine(t, p, nil, 100)
			checkSame(t, p, nil)
		}
		p := []impl.Rule{rBegin(sPrint(eNum(1)), sPrint(long))}
		checkMachine(t, p, nil, 100)
		checkSame(t, p, nil)
	}
}

// Each kind of expression and of statement as each kid of each.
func TestMachineOfEachKindWithinEach(t *testing.T) {
	t.Parallel()
	all := append(kindsWithin(), eCall("sub", eRe("a"), eVar("x")), eCall("gsub", eVar("x"), eRe("a"), eIndex("a", eVar("x"))), eCall("match", eVar("x"), eRe("a")), eCall("split", eVar("x"), eVar("a"), eRe("b")), eCall("sprintf", eVar("x")))
	lines := []string{"a 1", "2 b"}
	codes := map[int]int{}
	for _, outer := range all {
		for i := range outer.Kids {
			for _, inner := range all {
				n := copyNode(outer)
				n.Kids[i] = inner
				p := []impl.Rule{rPat(n, sIf(n, sBlock(sPrint(eVar("x"), n)), sBlock(sDel("a", n))), sFor("x", "a", sBlock(sExp(n))), sPrint(eVar("x")))}
				if impl.ProgOk(p) {
					checkMachine(t, p, lines, 30)
					codes[checkMachine(t, p, lines, 1000).Code]++
					checkSame(t, p, lines)
				}
			}
		}
	}
	for _, code := range []int{impl.RunOk, impl.RunNum, impl.RunFull} {
		if codes[code] == 0 {
			t.Errorf("%s: %d times", impl.CodeName(code), codes[code])
		}
	}
}

// Statements within one another, among them next and exit within loops.
func TestMachineOfStatementsWithinOthers(t *testing.T) {
	t.Parallel()
	x := eVar("x")
	less := func(name string) impl.Node { return eCmp("<", ePost("++", eVar(name)), eNum(2)) }
	wraps := []func(...impl.Node) impl.Node{sBlock, func(list ...impl.Node) impl.Node { return sIf(x, sBlock(list...)) }, func(list ...impl.Node) impl.Node { return sIf(x, sBlock(), sBlock(list...)) }, func(list ...impl.Node) impl.Node { return sIf(less("n"), sBlock(list...), sBlock(sPrint())) }, func(list ...impl.Node) impl.Node { return sWhile(less("i"), sBlock(list...)) }, func(list ...impl.Node) impl.Node { return sFor("k", "a", sBlock(list...)) }, func(list ...impl.Node) impl.Node { return sFor("x", "b", sBlock(list...)) }}
	statements := []impl.Node{sPrint(eVar("k"), x), sNext(), sExit(), sIf(eCmp("==", eVar("k"), eNum(2)), sBlock(sNext())), sDel("a", eVar("k")), sExp(eIndex("a", eCat(eVar("k"), eVar("NR")))), sExp(eSet("=", x, eNot(x)))}
	begin := rBegin(sExp(eIndex("a", eNum(1))), sExp(eIndex("a", eNum(2))), sExp(eIndex("b", eStr(""))), sExp(eIndex("b", eNum(3))))
	lines := []string{"p", "q"}
	for _, outer := range wraps {
		for _, middle := range wraps {
			for _, a := range statements {
				for _, b := range statements {
					p := []impl.Rule{begin, rPat(eNum(1), outer(middle(a, sPrint(eNum(7)), b), b), sPrint(eNum(8))), rAll(sFor("l", "a", sBlock(sPrint(eVar("l"), eVar("k"))))), rEnd(outer(a, sPrint(eNum(9))))}
					checkMachine(t, p, lines, 40)
					if code := checkSame(t, p, lines); code != checkMachine(t, p, lines, impl.MaxFuel).Code {
						t.Errorf("%q: %d", impl.ShowProg(p), code)
					}
				}
			}
		}
	}
}

func TestMachineOfMadePrograms(t *testing.T) {
	t.Parallel()
	from := rand.New(rand.NewSource(121))
	codes, same := map[int]int{}, map[int]int{}
	for _, p := range append(madePrograms(122, 6000), programOfAll()) {
		p = liven(from, p)
		lines := madeLines(from)
		for _, fuel := range []int{from.Intn(40), 40 + from.Intn(400), 2000} {
			codes[checkMachine(t, p, lines, fuel).Code]++
		}
		same[checkSame(t, p, lines)]++
	}
	for code := range 6 {
		if code != impl.RunNone && (codes[code] < 100 || same[code] < 50) {
			t.Errorf("%s: %d and %d times", impl.CodeName(code), codes[code], same[code])
		}
	}
}

func TestStepsOfMadePrograms(t *testing.T) {
	t.Parallel()
	from := rand.New(rand.NewSource(123))
	for _, p := range madePrograms(124, 400) {
		checkSteps(t, liven(from, p), []string{"a b", "1,2 x", ""}, 150)
	}
	checkSteps(t, programOfAll(), []string{"a b", "c"}, 400)
}

// A program and its text mean the same to the machine.
func TestMachineOfShownPrograms(t *testing.T) {
	from := rand.New(rand.NewSource(125))
	lines := []string{"a b", "1,2 x"}
	for _, p := range madePrograms(126, 800) {
		p = liven(from, p)
		q, line := impl.Parse(impl.ShowProg(p))
		if line != 0 || impl.RunCode(p, lines, 500) != impl.RunCode(q, lines, 500) || impl.Steps(p, lines, 500) != impl.Steps(q, lines, 500) {
			t.Errorf("%q: %d", impl.ShowProg(p), line)
		}
	}
}

// Promise 17: nothing is written into, and nothing is kept.
func TestMachineWritesIntoNothing(t *testing.T) {
	for _, p := range roomyPrograms(t, 127, "{ a[$1] = $2; $1 = \"q\"; NF = 9; sub(/a/, \"b\", $2); split($0, c); delete a[1]; $0 = \"z\" } END { for (k in a) for (l in a) { delete a[k]; print k l } }") {
		lines := append(make([]string, 0, 8), "a b", "c 1 2", "")
		room := lines[:cap(lines)]
		was, before := copyRules(p), slices.Clone(room)
		first, steps := impl.RunCode(p, lines, 400), impl.Steps(p, lines, 400)
		impl.RunCode(mustProg(t, "BEGIN { x = 5; a[1] = 7; a[2]; for (k in a) exit }"), nil, 100)
		if impl.RunCode(p, lines, 400) != first || impl.Steps(p, lines, 400) != steps {
			t.Errorf("%q: something is kept", impl.ShowProg(p))
		}
		checkNotWritten(t, p, was)
		if !slices.Equal(room, before) {
			t.Errorf("%q: lines were written into", impl.ShowProg(p))
		}
	}
}

// Every function answers at any arguments, and the machine stops.
func TestMachineAnswersAtAnything(t *testing.T) {
	begin := time.Now()
	for i, p := range append(oddPrograms(), mustProg(t, "{ x }")) {
		for _, lines := range oddLines() {
			for _, fuel := range []int{math.MinInt, -1, 0, 1, 1000, math.MaxInt} {
				r, steps := impl.RunCode(p, lines, fuel), impl.Steps(p, lines, fuel)
				if r.Code == impl.RunNone && (r.Out != "" || steps != 0) || r.Code < 0 || r.Code > 5 || steps < 0 || steps > max(fuel, 0) {
					t.Error(i, r.Code, steps)
				}
			}
		}
	}
	for i, p := range append(endlessPrograms(t), mustProg(t, "BEGIN { while (1) { } }"), mustProg(t, "BEGIN { while (i < 200) a[i++]; for (k in a) for (l in a) for (m in a) { } }")) {
		if r := impl.RunCode(p, []string{"x y"}, impl.MaxFuel); r.Code != impl.RunFuel || impl.Steps(p, []string{"x y"}, impl.MaxFuel) != impl.MaxFuel {
			t.Error(i, r.Code)
		}
	}
	many := mustProg(t, "BEGIN { while (i < 200) a[i++] } "+strings.Repeat("{ for (k in a) for (l in a) next }\n", 19))
	if r := impl.RunCode(many, make([]string, 1000), impl.MaxFuel); r != (impl.Result{}) {
		t.Error(r.Code)
	}
	if time.Since(begin) > time.Minute {
		t.Error(time.Since(begin))
	}
}
