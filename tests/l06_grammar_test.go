package tests

import (
	"math/rand"
	"slices"
	"strings"
	"testing"

	"loop.example/g00560/impl"
)

// grammar tells all that words may be, from one place to another, by trying
// where each form can be parted. It has nothing of how Parse goes through them.
type grammar struct {
	words []impl.Token
	known map[[3]int][]impl.Node
}

func newGrammar(words []impl.Token) *grammar {
	return &grammar{words, map[[3]int][]impl.Node{}}
}

func (g *grammar) is(at int, kind int, texts string) bool {
	return at >= 0 && at < len(g.words) && g.words[at].Kind == kind && (texts == "" || slices.Contains(strings.Fields(texts), g.words[at].Text))
}

func (g *grammar) isName(at int) bool {
	_, call := callCounts()[g.words[at].Text]
	return g.is(at, impl.TName, "") && !call
}

const (
	looseSet = iota
	looseCond
	looseOr
	looseAnd
	looseIn
	looseMatch
	looseCmp
	looseCat
	looseSum
	looseProduct
	looseTurn
	loosePower
	looseStep
	looseNot
)

func (g *grammar) exps(level int, i int, j int) []impl.Node {
	if i >= j {
		return nil
	}
	key := [3]int{level, i, j}
	list, ok := g.known[key]
	if !ok {
		list = g.forms(level, i, j)
		if level < looseNot {
			list = append(list, g.exps(level+1, i, j)...)
		}
		g.known[key] = list
	}
	return list
}

// sides tells what wrap makes of both sides of each sign.
func (g *grammar) sides(level int, right int, i int, j int, signs string, wrap func(string, impl.Node, impl.Node) impl.Node) []impl.Node {
	list := []impl.Node{}
	for at := i + 1; at < j-1; at++ {
		if !g.is(at, impl.TSign, signs) {
			continue
		}
		for _, a := range g.exps(level, i, at) {
			for _, b := range g.exps(right, at+1, j) {
				list = append(list, wrap(g.words[at].Text, a, b))
			}
		}
	}
	return list
}

func isAPlace(n impl.Node) bool {
	return slices.Contains([]int{impl.EVar, impl.EIndex, impl.EField}, n.Kind)
}

func (g *grammar) forms(level int, i int, j int) []impl.Node {
	switch level {
	case looseSet:
		list := g.sides(looseCond, looseSet, i, j, "= += -= *= /= %=", eSet)
		return slices.DeleteFunc(list, func(n impl.Node) bool { return !isAPlace(n.Kids[0]) })
	case looseCond:
		return g.conditions(i, j)
	case looseOr:
		return g.sides(looseOr, looseAnd, i, j, "||", func(_ string, a impl.Node, b impl.Node) impl.Node { return eOr(a, b) })
	case looseAnd:
		return g.sides(looseAnd, looseIn, i, j, "&&", func(_ string, a impl.Node, b impl.Node) impl.Node { return eAnd(a, b) })
	case looseIn:
		list := []impl.Node{}
		if g.is(j-2, impl.TKey, "in") && g.isName(j-1) {
			for _, a := range g.exps(looseIn, i, j-2) {
				list = append(list, eIn(a, g.words[j-1].Text))
			}
		}
		return list
	case looseMatch:
		return g.sides(looseMatch, looseCmp, i, j, "~ !~", eMatch)
	case looseCmp:
		return g.sides(looseCat, looseCat, i, j, "< <= == != > >=", eCmp)
	case looseCat:
		return g.pairs(i, j)
	case looseSum:
		return g.sides(looseSum, looseProduct, i, j, "+ -", eOp)
	case looseProduct:
		return g.sides(looseProduct, looseTurn, i, j, "* / %", eOp)
	case looseTurn:
		list := []impl.Node{}
		if g.is(i, impl.TSign, "! -") {
			for _, kid := range g.exps(looseTurn, i+1, j) {
				list = append(list, eNode(map[string]int{"!": impl.ENot, "-": impl.ENeg}[g.words[i].Text], "", kid))
			}
		}
		return list
	case loosePower:
		return g.sides(looseStep, looseTurn, i, j, "^", eOp)
	case looseStep:
		list := []impl.Node{}
		if g.is(j-1, impl.TSign, "++ --") {
			for _, kid := range g.exps(looseNot, i, j-1) {
				if isAPlace(kid) {
					list = append(list, ePost(g.words[j-1].Text, kid))
				}
			}
		}
		return list
	}
	return g.singles(i, j)
}

func (g *grammar) conditions(i int, j int) []impl.Node {
	list := []impl.Node{}
	for at := i + 1; at < j; at++ {
		if !g.is(at, impl.TSign, "?") {
			continue
		}
		for _, test := range g.exps(looseOr, i, at) {
			list = append(list, g.sides(looseSet, looseSet, at+1, j, ":", func(_ string, a impl.Node, b impl.Node) impl.Node { return eCond(test, a, b) })...)
		}
	}
	return list
}

func (g *grammar) pairs(i int, j int) []impl.Node {
	list := []impl.Node{}
	for at := i + 1; at < j; at++ {
		if !g.is(at, impl.TNum, "") && !g.is(at, impl.TStr, "") && !g.is(at, impl.TName, "") && !g.is(at, impl.TSign, "$ (") {
			continue
		}
		for _, a := range g.exps(looseCat, i, at) {
			for _, b := range g.exps(looseSum, at, j) {
				list = append(list, eCat(a, b))
			}
		}
	}
	return list
}

func (g *grammar) singles(i int, j int) []impl.Node {
	list, word := []impl.Node{}, g.words[i]
	if j == i+1 {
		switch {
		case word.Kind == impl.TNum:
			return []impl.Node{{Kind: impl.ENum, N: word.N}}
		case word.Kind == impl.TStr:
			return []impl.Node{eStr(word.Text)}
		case word.Kind == impl.TRe:
			return []impl.Node{eRe(word.Text)}
		case g.isName(i):
			return []impl.Node{eVar(word.Text)}
		}
		return nil
	}
	switch {
	case g.is(i, impl.TSign, "$"):
		for _, kid := range g.exps(looseNot, i+1, j) {
			list = append(list, eField(kid))
		}
	case g.is(i, impl.TSign, "++ --"):
		for _, kid := range g.exps(looseNot, i+1, j) {
			if isAPlace(kid) {
				list = append(list, ePre(word.Text, kid))
			}
		}
	case g.is(i, impl.TSign, "(") && g.is(j-1, impl.TSign, ")"):
		return g.exps(looseSet, i+1, j-1)
	case g.isName(i) && g.is(i+1, impl.TSign, "[") && g.is(j-1, impl.TSign, "]"):
		for _, kid := range g.exps(looseSet, i+2, j-1) {
			list = append(list, eIndex(word.Text, kid))
		}
	case g.is(i, impl.TName, "") && !g.isName(i) && g.is(i+1, impl.TSign, "(") && g.is(j-1, impl.TSign, ")"):
		if j == i+3 {
			return []impl.Node{eCall(word.Text)}
		}
		for _, kids := range g.lists(i+2, j-1) {
			list = append(list, eCall(word.Text, kids...))
		}
	}
	return list
}

// lists tells expressions with commas between.
func (g *grammar) lists(i int, j int) [][]impl.Node {
	list := [][]impl.Node{}
	for _, only := range g.exps(looseSet, i, j) {
		list = append(list, []impl.Node{only})
	}
	for at := i + 1; at < j; at++ {
		if !g.is(at, impl.TSign, ",") {
			continue
		}
		for _, first := range g.exps(looseSet, i, at) {
			for _, others := range g.lists(at+1, j) {
				list = append(list, slices.Concat([]impl.Node{first}, others))
			}
		}
	}
	return list
}

func (g *grammar) programs(i int, j int) [][]impl.Rule {
	if i == j {
		return [][]impl.Rule{{}}
	}
	if g.is(i, impl.TEnd, "") {
		return g.programs(i+1, j)
	}
	list := [][]impl.Rule{}
	for at := i + 1; at <= j; at++ {
		if at < j && !g.is(at-1, impl.TSign, "}") && !g.is(at, impl.TEnd, "") {
			continue
		}
		for _, rule := range g.rules(i, at) {
			for _, others := range g.programs(at, j) {
				list = append(list, slices.Concat([]impl.Rule{rule}, others))
			}
		}
	}
	return list
}

func (g *grammar) rules(i int, j int) []impl.Rule {
	list := []impl.Rule{}
	for _, body := range g.blocks(i, j) {
		list = append(list, impl.Rule{When: impl.WAll, Body: body})
	}
	if g.is(i, impl.TKey, "BEGIN END") {
		for _, body := range g.blocks(i+1, j) {
			list = append(list, impl.Rule{When: map[string]int{"BEGIN": impl.WBegin, "END": impl.WEnd}[g.words[i].Text], Body: body})
		}
	}
	for _, pat := range g.exps(looseSet, i, j) {
		list = append(list, rPat(pat, sPrint()))
	}
	for at := i + 1; at < j; at++ {
		for _, body := range g.blocks(at, j) {
			for _, pat := range g.exps(looseSet, i, at) {
				list = append(list, impl.Rule{When: impl.WPat, Pat: pat, Body: body})
			}
		}
	}
	return list
}

func (g *grammar) blocks(i int, j int) []impl.Node {
	list := []impl.Node{}
	if j-i >= 2 && g.is(i, impl.TSign, "{") && g.is(j-1, impl.TSign, "}") {
		for _, kids := range g.contents(i+1, j-1) {
			list = append(list, sBlock(kids...))
		}
	}
	return list
}

func (g *grammar) contents(i int, j int) [][]impl.Node {
	if i == j {
		return [][]impl.Node{{}}
	}
	if g.is(i, impl.TEnd, "") {
		return g.contents(i+1, j)
	}
	list := [][]impl.Node{}
	for at := i + 1; at <= j; at++ {
		if at < j && !g.is(at-1, impl.TSign, "}") && !g.is(at, impl.TEnd, "") {
			continue
		}
		for _, one := range g.statements(i, at) {
			for _, others := range g.contents(at, j) {
				list = append(list, slices.Concat([]impl.Node{one.node}, others))
			}
		}
	}
	return list
}

// said is a statement, and whether an else behind it would be its own.
type said struct {
	node impl.Node
	open bool
}

func (s said) body() impl.Node {
	if s.node.Kind == impl.SBlock {
		return s.node
	}
	return sBlock(s.node)
}

func (g *grammar) skipEnds(i int) int {
	for g.is(i, impl.TEnd, "") {
		i++
	}
	return i
}

func (g *grammar) statements(i int, j int) []said {
	list := []said{}
	if i >= j {
		return list
	}
	for _, n := range slices.Concat(g.blocks(i, j), g.plain(i, j)) {
		list = append(list, said{n, false})
	}
	if !g.is(i, impl.TKey, "if while for") || !g.is(i+1, impl.TSign, "(") {
		return list
	}
	for at := i + 2; at < j; at++ {
		if !g.is(at, impl.TSign, ")") {
			continue
		}
		begin := g.skipEnds(at + 1)
		if g.is(i, impl.TKey, "for") {
			if at == i+5 && g.isName(i+2) && g.is(i+3, impl.TKey, "in") && g.isName(i+4) {
				for _, s := range g.statements(begin, j) {
					list = append(list, said{sFor(g.words[i+2].Text, g.words[i+4].Text, s.body()), s.open})
				}
			}
			continue
		}
		for _, test := range g.exps(looseSet, i+2, at) {
			for _, s := range g.statements(begin, j) {
				if g.is(i, impl.TKey, "while") {
					list = append(list, said{sWhile(test, s.body()), s.open})
				} else {
					list = append(list, said{sIf(test, s.body()), true})
				}
			}
			if g.is(i, impl.TKey, "if") {
				list = append(list, g.elses(test, begin, j)...)
			}
		}
	}
	return list
}

func (g *grammar) elses(test impl.Node, i int, j int) []said {
	list := []said{}
	for at := i + 1; at < j; at++ {
		if !g.is(at, impl.TKey, "else") {
			continue
		}
		for end := i + 1; end <= at; end++ {
			if g.skipEnds(end) != at || end == at && !g.is(at-1, impl.TSign, "}") {
				continue
			}
			for _, then := range g.statements(i, end) {
				if then.open || g.is(end-1, impl.TEnd, "") {
					continue
				}
				for _, other := range g.statements(g.skipEnds(at+1), j) {
					list = append(list, said{sIf(test, then.body(), other.body()), other.open})
				}
			}
		}
	}
	return list
}

func (g *grammar) plain(i int, j int) []impl.Node {
	list := []impl.Node{}
	for _, e := range g.exps(looseSet, i, j) {
		list = append(list, sExp(e))
	}
	switch {
	case g.is(i, impl.TKey, "print printf"):
		kind := map[string]int{"print": impl.SPrint, "printf": impl.SPrintf}[g.words[i].Text]
		for _, kids := range g.lists(i+1, j) {
			list = append(list, eNode(kind, "", kids...))
		}
		if j == i+1 && kind == impl.SPrint {
			list = append(list, sPrint())
		}
	case g.is(i, impl.TKey, "next exit") && j == i+1:
		list = append(list, eNode(map[string]int{"next": impl.SNext, "exit": impl.SExit}[g.words[i].Text], ""))
	case g.is(i, impl.TKey, "delete") && j > i+4 && g.isName(i+1) && g.is(i+2, impl.TSign, "[") && g.is(j-1, impl.TSign, "]"):
		for _, e := range g.exps(looseSet, i+3, j-1) {
			list = append(list, sDel(g.words[i+1].Text, e))
		}
	}
	return list
}

// wantedParse tells the one program that a text is, whether Ok or not; false
// where its words do not fit.
func wantedParse(t *testing.T, s string) ([]impl.Rule, bool) {
	t.Helper()
	words, bad := impl.Lex(s)
	if bad != 0 {
		return nil, false
	}
	list := newGrammar(words).programs(0, len(words))
	if len(list) > 1 {
		t.Fatalf("%q is %v", s, list)
	}
	if len(list) == 0 {
		return nil, false
	}
	return list[0], true
}

// checkParse is told of a text with its first line empty, and of the line of the
// word of it that does not fit.
func checkParse(t *testing.T, s string, line int) bool {
	t.Helper()
	want, fits := wantedParse(t, s)
	ok := fits && impl.ProgOk(want)
	got, bad := impl.Parse(s)
	switch {
	case ok && (bad != 0 || !sameRules(got, want)):
		t.Fatalf("Parse(%q) = %v, %d, not %v", s, got, bad, want)
	case fits && !ok && (bad != 1 || len(got) != 0):
		t.Fatalf("Parse(%q) = %v, %d, not 1", s, got, bad)
	case !fits && (bad != line || len(got) != 0):
		t.Fatalf("Parse(%q) = %v, %d, not %d", s, got, bad, line)
	}
	if ok && len(want) > 0 {
		checkProgComesBack(t, got)
	}
	return ok
}

// Expressions of all words of some lists of these, in each order.
func TestParseAllShortExpressions(t *testing.T) {
	t.Parallel()
	lists := []struct {
		words string
		most  int
	}{
		{"x ( ) ++ $ -", 6}, {"x = ? :", 7}, {"x && || in k !", 5}, {"x ~ < in k", 6}, {"x < + y ~", 5}, {"x ^ - ! *", 6}, {"x ++ + - ^", 6}, {"x 1 \"s\" $ ++ --", 4}, {"x [ ] k in =", 5}, {"x ( ) length ,", 6}, {"x = += ( ) $", 5}, {"x /r/ ~ ! ( )", 5}, {"x ? : = , ( )", 5}, {"x - + * / %", 5}, {"x split ( ) , sub k", 5}, {"x == != in k && =", 5},
	}
	for _, list := range lists {
		fits := 0
		for _, s := range allRows(strings.Fields(list.words), list.most) {
			if checkParse(t, "\n"+s, 2) {
				fits++
			}
		}
		if fits < 20 {
			t.Error(list, fits)
		}
	}
}

// allRows tells all rows of one up to most of these parts, with blanks between.
func allRows(parts []string, most int) []string {
	rows := []string{}
	last := []string{""}
	for range most {
		next := []string{}
		for _, row := range last {
			for _, part := range parts {
				next = append(next, strings.TrimLeft(row+" "+part, " "))
			}
		}
		rows = append(rows, next...)
		last = next
	}
	return rows
}

// goesOn tells whether words may stand behind those of s, such that they are a
// program.
func goesOn(t *testing.T, s string) bool {
	depth := strings.Count(s, "{") - strings.Count(s, "}")
	for _, next := range []string{"", "x", "{ }", "in k ) x", "k ) x", ") x", "x in k ) x"} {
		if _, fits := wantedParse(t, s+" "+next+strings.Repeat(" }", max(depth, 0))); fits {
			return true
		}
	}
	return false
}

// checkRows goes through all rows of parts behind a head, as long as more may
// stand behind them: the first word behind which none may tells the line.
func checkRows(t *testing.T, head string, parts []string, most int) int {
	fits := 0
	for _, part := range parts {
		s := head + " " + part
		line := 1 + strings.Count(head, "\n")
		if part != "\n" {
			line = 1 + strings.Count(s, "\n")
		}
		if !goesOn(t, s) {
			for _, more := range []string{"", " x", "\n\n", " }", "\n}\n", "\n\nelse {", " BEGIN\n"} {
				checkNoProg(t, s+more, line)
			}
			continue
		}
		if checkParse(t, s, line) {
			fits++
		}
		if most > 1 {
			fits += checkRows(t, s, parts, most-1)
		}
	}
	return fits
}

// Statements and rules of all parts of some lists, in each order, with the line
// of the word that does not fit.
func TestParseAllShortPrograms(t *testing.T) {
	t.Parallel()
	lists := []struct {
		head  string
		parts []string
		most  int
	}{
		{"\n{", []string{"x", "\n", "if (x)", "else", "{", "}"}, 6},
		{"\n{ if (x)", []string{"x", "\n", ";", "else", "if (y)", "}"}, 6},
		{"\n{ if (x)", []string{"x", "\n", "else", "while (y)", "for (y in k)", "{", "}"}, 5},
		{"\n{", []string{"print", "x", ",", "\n", "}", "printf", "while (x)"}, 5},
		{"\n{", []string{"next", "exit", "delete k [1]", "x", "\n", "}", "{"}, 5},
		{"\n{ for (", []string{"x", "in", "k", ")", "\n", "}", "1"}, 8},
		{"\n", []string{"BEGIN", "END", "{", "}", "x", "\n"}, 6},
		{"\n", []string{"x", "{", "}", "\n", ";", "print", "/r/"}, 5},
		{"\n{ x }", []string{"x", "{", "}", "\n", "BEGIN", "-"}, 5},
	}
	for _, list := range lists {
		t.Run(strings.Join(list.parts, " "), func(t *testing.T) {
			t.Parallel()
			if fits := checkRows(t, list.head, list.parts, list.most); fits < 15 {
				t.Errorf("%q %q: %d", list.head, list.parts, fits)
			}
		})
	}
}

// layout writes a program in words, with as few or as many round brackets, braces
// and ends as it likes.
type layout struct {
	from  *rand.Rand
	words []string
}

func (l *layout) add(words ...string) { l.words = append(l.words, words...) }

func (l *layout) maybe() bool { return l.from.Intn(3) == 0 }

// ends writes at least so many.
func (l *layout) ends(least int) {
	for range least {
		l.add([]string{";", "\n"}[l.from.Intn(2)])
	}
	for l.maybe() {
		l.add([]string{";", "\n", "# } else\n"}[l.from.Intn(3)])
	}
}

func looseness(n impl.Node) int {
	switch n.Kind {
	case impl.ESet:
		return looseSet
	case impl.ECond:
		return looseCond
	case impl.EOr:
		return looseOr
	case impl.EAnd:
		return looseAnd
	case impl.EIn:
		return looseIn
	case impl.EMatch:
		return looseMatch
	case impl.ECmp:
		return looseCmp
	case impl.ECat:
		return looseCat
	case impl.EOp:
		return map[string]int{"+": looseSum, "-": looseSum, "*": looseProduct, "/": looseProduct, "%": looseProduct, "^": loosePower}[n.Text]
	case impl.ENot, impl.ENeg:
		return looseTurn
	case impl.EPost:
		return looseStep
	}
	return looseNot
}

// exp writes an expression where one of a level or a tighter one may stand.
func (l *layout) exp(n impl.Node, level int) {
	if looseness(n) < level || l.from.Intn(12) == 0 {
		l.add("(")
		l.exp(n, looseSet)
		l.add(")")
		return
	}
	switch n.Kind {
	case impl.ENum:
		l.add(impl.NumText(n.N))
	case impl.EStr:
		l.add(impl.Quote(n.Text))
	case impl.ERe:
		l.add("/" + n.Text + "/")
	case impl.EVar:
		l.add(n.Text)
	case impl.EIndex:
		l.add(n.Text, "[")
		l.exp(n.Kids[0], looseSet)
		l.add("]")
	case impl.EField:
		l.add("$")
		l.exp(n.Kids[0], looseNot)
	case impl.ECall:
		l.add(n.Text, "(")
		l.list(n.Kids)
		l.add(")")
	case impl.EPre:
		l.add(n.Text)
		l.exp(n.Kids[0], looseNot)
	case impl.EPost:
		l.exp(n.Kids[0], looseNot)
		l.add(n.Text)
	case impl.ENot, impl.ENeg:
		l.add(map[int]string{impl.ENot: "!", impl.ENeg: "-"}[n.Kind])
		l.exp(n.Kids[0], looseTurn)
	case impl.EIn:
		l.exp(n.Kids[0], looseIn)
		l.add("in", n.Text)
	default:
		l.both(n)
	}
}

func (l *layout) both(n impl.Node) {
	level := looseness(n)
	left, right, sign := level, level+1, n.Text
	switch n.Kind {
	case impl.ESet:
		left, right = looseNot, looseSet
	case impl.ECond:
		l.exp(n.Kids[0], looseOr)
		l.add("?")
		l.exp(n.Kids[1], looseSet)
		l.add(":")
		l.exp(n.Kids[2], looseSet)
		return
	case impl.EOr:
		sign = "||"
	case impl.EAnd:
		sign = "&&"
	case impl.ECmp:
		left = looseCat
	case impl.EOp:
		if sign == "^" {
			left, right = looseStep, looseTurn
		}
	case impl.ECat:
		l.cat(n)
		return
	}
	l.exp(n.Kids[0], left)
	l.add(sign)
	l.exp(n.Kids[1], right)
}

// cat brackets a second kid that begins with what may not stand there.
func (l *layout) cat(n impl.Node) {
	l.exp(n.Kids[0], looseCat)
	begin := len(l.words)
	l.exp(n.Kids[1], looseSum)
	if first := l.words[begin]; strings.ContainsAny(first[:1], "-+!/") {
		l.words = append(slices.Insert(l.words, begin, "("), ")")
	}
}

func (l *layout) list(kids []impl.Node) {
	for i, kid := range kids {
		if i > 0 {
			l.add(",")
		}
		l.exp(kid, looseSet)
	}
}

func (l *layout) block(n impl.Node) {
	l.add("{")
	l.ends(0)
	for i, kid := range n.Kids {
		l.statement(kid, i == len(n.Kids)-1)
	}
	l.add("}")
}

// endsWithIf tells whether an else behind a body without braces would be its own.
func endsWithIf(body impl.Node) bool {
	if len(body.Kids) != 1 {
		return false
	}
	n := body.Kids[0]
	switch n.Kind {
	case impl.SIf:
		return len(n.Kids) == 2 || endsWithIf(n.Kids[2])
	case impl.SWhile, impl.SFor:
		return endsWithIf(n.Kids[1])
	}
	return false
}

func (l *layout) branch(body impl.Node, last bool, braces bool) {
	l.ends(0)
	if braces || len(body.Kids) != 1 || body.Kids[0].Kind == impl.SBlock || l.maybe() {
		l.block(body)
		l.ends(0)
		return
	}
	l.statement(body.Kids[0], last)
}

// statement writes one, and ends that it needs where it is not the last one.
func (l *layout) statement(n impl.Node, last bool) {
	switch n.Kind {
	case impl.SBlock:
		l.block(n)
		l.ends(0)
	case impl.SIf, impl.SWhile:
		l.add(map[int]string{impl.SIf: "if", impl.SWhile: "while"}[n.Kind], "(")
		l.exp(n.Kids[0], looseSet)
		l.add(")")
		whole := len(n.Kids) == 2
		l.branch(n.Kids[1], last && whole, !whole && endsWithIf(n.Kids[1]))
		if !whole {
			l.add("else")
			l.branch(n.Kids[2], last, false)
		}
	case impl.SFor:
		l.add("for", "(", n.Text, "in", n.Kids[0].Text, ")")
		l.branch(n.Kids[1], last, false)
	default:
		l.plain(n)
		l.ends(map[bool]int{true: 0, false: 1}[last])
	}
}

func (l *layout) plain(n impl.Node) {
	switch n.Kind {
	case impl.SExp:
		l.exp(n.Kids[0], looseSet)
	case impl.SPrint:
		l.add("print")
		l.list(n.Kids)
	case impl.SPrintf:
		l.add("printf")
		l.list(n.Kids)
	case impl.SNext:
		l.add("next")
	case impl.SExit:
		l.add("exit")
	case impl.SDel:
		l.add("delete", n.Text, "[")
		l.exp(n.Kids[0], looseSet)
		l.add("]")
	}
}

func (l *layout) program(p []impl.Rule) {
	l.ends(0)
	for i, rule := range p {
		switch rule.When {
		case impl.WBegin:
			l.add("BEGIN")
		case impl.WEnd:
			l.add("END")
		case impl.WPat:
			l.exp(rule.Pat, looseSet)
			if sameNode(rule.Body, sBlock(sPrint())) && l.maybe() {
				l.ends(map[bool]int{true: 0, false: 1}[i == len(p)-1])
				continue
			}
		}
		l.block(rule.Body)
		l.ends(0)
	}
}

// text puts the words together, without blanks where they are these words without
// them, too.
func (l *layout) text() string {
	out := ""
	for i, word := range l.words {
		gap := " "
		if i > 0 && l.from.Intn(2) == 0 {
			joined, bad := impl.Lex(l.words[i-1] + word)
			parted, _ := impl.Lex(l.words[i-1] + " " + word)
			if bad == 0 && slices.Equal(joined, parted) {
				gap = ""
			}
		}
		out += gap + word
	}
	return out
}

// layoutsOf tells texts of one program. A stroke that divides where none may begin
// an expression is none of the program's words; such a layout is left out.
func layoutsOf(from *rand.Rand, p []impl.Rule, many int) []*layout {
	list := []*layout{}
	for range many {
		l := &layout{from: from}
		l.program(p)
		again := slices.ContainsFunc(l.words, func(word string) bool { return len(word) > 1 && word[0] == '/' && word != "/=" })
		words, bad := impl.Lex(strings.Join(l.words, " "))
		if again && (bad != 0 || impl.Count(words, impl.TRe) != countRes(l.words)) {
			continue
		}
		list = append(list, l)
	}
	return list
}

func countRes(words []string) int {
	many := 0
	for _, word := range words {
		if len(word) > 1 && word[0] == '/' && word != "/=" {
			many++
		}
	}
	return many
}

func TestParseMadeLayouts(t *testing.T) {
	t.Parallel()
	from := rand.New(rand.NewSource(7))
	read := 0
	for _, p := range madePrograms(8, 4000) {
		for _, l := range layoutsOf(from, p, 3) {
			s := l.text()
			if len(s) > impl.MaxText {
				continue
			}
			got, line := impl.Parse(s)
			if line != 0 || !sameRules(got, p) {
				t.Fatalf("Parse(%q) = %v, %d, not %v", s, got, line, p)
			}
			read++
		}
	}
	if read < 8000 {
		t.Error(read)
	}
}

// A text that is cut behind a word has words lacking, or is a program; one with a
// word too many tells the line of that.
func TestParseCutAndSpoiltLayouts(t *testing.T) {
	t.Parallel()
	from := rand.New(rand.NewSource(9))
	for _, p := range madePrograms(10, 600) {
		for _, l := range layoutsOf(from, p, 1) {
			if len(strings.Join(l.words, " ")) > 3000 {
				continue
			}
			depth := 0
			for i, word := range l.words {
				s := "\n\n" + strings.Join(l.words[:i+1], " ")
				words, _ := impl.Lex(s)
				last := words[len(words)-1].Line
				got, line := impl.Parse(s)
				// What has no rule, or an array's name without its brackets, is no program.
				none := impl.Count(words, impl.TEnd) == len(words) || strings.Contains(" A Bb c_1 ", " "+word+" ")
				if line != last && (line != 0 || !impl.ProgOk(got)) && (line != 1 || !none) {
					t.Fatalf("Parse(%q) = %d, not %d", s, line, last)
				}
				depth += map[string]int{"{": 1, "}": -1}[word]
				if depth > 0 {
					for _, more := range []string{" BEGIN", " END\n", " BEGIN { }\n" + strings.Join(l.words[i+1:], " ")} {
						if _, bad := impl.Lex(s + more); bad == 0 {
							checkNoProg(t, s+more, 1+strings.Count(s, "\n"))
						}
					}
				}
			}
		}
	}
}
