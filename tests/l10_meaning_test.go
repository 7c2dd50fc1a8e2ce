package tests

import (
	"math"
	"slices"
	"strings"

	"loop.example/g00560/impl"
)

// meaning tells a run by the words of chapter 10, one by one. What ends it, or what
// is run of rules, is told by a panic: a stop with its code, or a leave. rule runs
// one rule, by its number.
type meaning struct {
	fuel   int
	out    string
	rec    impl.Rec
	vars   map[string]impl.Val
	arrays map[string][]cell
	rule   func(int)
}

type cell struct {
	key string
	val impl.Val
}

type stop int

type leave string

func newMeaning(fuel int) *meaning {
	return &meaning{fuel: fuel, vars: map[string]impl.Val{"FS": str(" "), "OFS": str(" "), "ORS": str("\n"), "NR": num(0)}, arrays: map[string][]cell{}}
}

// isRun tells whether there is a run of these at all.
func isRun(p []impl.Rule, lines []string, fuel int) bool {
	bad := func(s string) bool { return len(s) > 2000 || strings.Contains(s, "\n") }
	return impl.ProgOk(p) && len(lines) <= 1000 && !slices.ContainsFunc(lines, bad) && fuel >= 0 && fuel <= 100000
}

// wantedRun tells what Run and Trace tell.
func wantedRun(p []impl.Rule, lines []string, fuel int) (impl.Result, []int) {
	r, begun, _ := wantedFuel(p, lines, fuel)
	return r, begun
}

// wantedFuel tells how much fuel the run takes, too.
func wantedFuel(p []impl.Rule, lines []string, fuel int) (impl.Result, []int, int) {
	m, begun := newMeaning(fuel), make([]int, len(p))
	if !isRun(p, lines, fuel) {
		return impl.Result{Code: impl.RunNone}, begun, 0
	}
	m.rule = func(i int) {
		if p[i].When == impl.WPat && !impl.Truth(m.exp(p[i].Pat)) {
			return
		}
		m.burn()
		begun[i]++
		for _, kid := range p[i].Body.Kids {
			m.do(kid)
		}
	}
	code := m.whole(p, lines)
	return impl.Result{Code: code, Out: m.out}, begun, fuel - m.fuel
}

func (m *meaning) whole(p []impl.Rule, lines []string) (code int) {
	defer func() {
		if told := recover(); told != nil {
			code = int(told.(stop))
		}
	}()
	left := m.some(p, impl.WBegin)
	for _, line := range lines {
		if left == "exit" {
			break
		}
		m.vars["NR"] = m.number(impl.Add(impl.NumOf(m.vars["NR"]), impl.One))
		m.record(impl.RecOf(line, m.text("FS")))
		left = m.some(p, impl.WAll, impl.WPat)
	}
	m.some(p, impl.WEnd)
	return impl.RunOk
}

// some runs the rules of these Whens, and tells what left them.
func (m *meaning) some(p []impl.Rule, whens ...int) (left leave) {
	defer func() {
		if told := recover(); told != nil {
			why, ok := told.(leave)
			if !ok {
				panic(told)
			}
			left = why
		}
	}()
	for i, rule := range p {
		if slices.Contains(whens, rule.When) {
			m.rule(i)
		}
	}
	return ""
}

func (m *meaning) burn() {
	m.need(m.fuel > 0, impl.RunFuel)
	m.fuel--
}

func (m *meaning) need(ok bool, code int) {
	if !ok {
		panic(stop(code))
	}
}

func (m *meaning) number(n int, ok bool) impl.Val {
	m.need(ok, impl.RunNum)
	return num(n)
}

func (m *meaning) record(r impl.Rec, ok bool) {
	m.need(ok, impl.RunFull)
	m.rec = r
}

func (m *meaning) text(name string) string { return impl.StrOf(m.vars[name]) }

func (m *meaning) print(s string) {
	m.need(len(m.out)+len(s) <= 20000, impl.RunFull)
	m.out += s
}

func (m *meaning) made(s string) impl.Val {
	m.need(len(s) <= 4000, impl.RunFull)
	return str(s)
}

func truthVal(is bool) impl.Val { return map[bool]impl.Val{false: num(0), true: num(impl.One)}[is] }

func (m *meaning) count(n int) impl.Val { return m.number(n*impl.One, n <= 1000000) }

func wholeNum(v impl.Val) int { return impl.Whole(impl.NumOf(v)) / impl.One }

func (m *meaning) do(n impl.Node) {
	m.burn()
	switch n.Kind {
	case impl.SExp:
		m.exp(n.Kids[0])
	case impl.SPrint:
		texts := []string{}
		for _, kid := range n.Kids {
			texts = append(texts, impl.StrOf(m.exp(kid)))
		}
		if len(n.Kids) == 0 {
			texts = []string{m.rec.Line}
		}
		m.print(strings.Join(texts, m.text("OFS")) + m.text("ORS"))
	case impl.SPrintf:
		m.print(m.form(n.Kids))
	case impl.SIf:
		if impl.Truth(m.exp(n.Kids[0])) {
			m.do(n.Kids[1])
		} else if len(n.Kids) > 2 {
			m.do(n.Kids[2])
		}
	case impl.SWhile:
		for impl.Truth(m.exp(n.Kids[0])) {
			m.do(n.Kids[1])
		}
	case impl.SFor:
		_, give := m.place(eVar(n.Text))
		for _, c := range slices.Clone(m.arrays[n.Kids[0].Text]) {
			give(str(c.key))
			m.do(n.Kids[1])
		}
	case impl.SNext:
		panic(leave("next"))
	case impl.SExit:
		panic(leave("exit"))
	case impl.SDel:
		key := impl.StrOf(m.exp(n.Kids[0]))
		m.arrays[n.Text] = slices.DeleteFunc(slices.Clone(m.arrays[n.Text]), func(c cell) bool { return c.key == key })
	case impl.SBlock:
		for _, kid := range n.Kids {
			m.do(kid)
		}
	}
}

func (m *meaning) form(kids []impl.Node) string {
	list := []impl.Val{}
	for _, kid := range kids {
		list = append(list, m.exp(kid))
	}
	s, ok := impl.Sprintf(impl.StrOf(list[0]), list[1:])
	m.need(ok, impl.RunFull)
	return s
}

// find tells where the key of an element stands, -1 where it is not there.
func (m *meaning) find(array string, key string) int {
	return slices.IndexFunc(m.arrays[array], func(c cell) bool { return c.key == key })
}

func (m *meaning) element(array string, key string) *cell {
	if m.find(array, key) < 0 {
		m.need(len(m.arrays[array]) < 200, impl.RunFull)
		m.arrays[array] = append(slices.Clone(m.arrays[array]), cell{key, none()})
	}
	return &m.arrays[array][m.find(array, key)]
}

// place tells the kid of a place, and then how it is read and given something.
func (m *meaning) place(n impl.Node) (func() impl.Val, func(impl.Val)) {
	switch n.Kind {
	case impl.EIndex:
		key := impl.StrOf(m.exp(n.Kids[0]))
		return func() impl.Val { return m.element(n.Text, key).val }, func(v impl.Val) { m.element(n.Text, key).val = v }
	case impl.EField:
		return m.fieldPlace(wholeNum(m.exp(n.Kids[0])))
	}
	if n.Text == "NF" {
		return func() impl.Val { return m.count(len(m.rec.Fields)) }, func(v impl.Val) { m.record(impl.SetCount(m.rec, wholeNum(v), m.text("OFS"))) }
	}
	return func() impl.Val { return m.vars[n.Text] }, func(v impl.Val) { m.vars[n.Text] = v }
}

func (m *meaning) fieldPlace(i int) (func() impl.Val, func(impl.Val)) {
	read := func() impl.Val {
		m.need(0 <= i && i <= 60, impl.RunFull)
		if i > len(m.rec.Fields) {
			return none()
		}
		return impl.FromText(impl.Field(m.rec, i))
	}
	if i == 0 {
		return read, func(v impl.Val) { m.record(impl.SetLine(m.rec, impl.StrOf(v), m.text("FS"))) }
	}
	return read, func(v impl.Val) { m.record(impl.SetField(m.rec, i, impl.StrOf(v), m.text("OFS"))) }
}

func (m *meaning) exp(n impl.Node) impl.Val {
	m.burn()
	switch n.Kind {
	case impl.ENum:
		return num(n.N)
	case impl.EStr:
		return str(n.Text)
	case impl.ERe:
		return truthVal(impl.Has(m.re(n.Text), m.rec.Line))
	case impl.EField, impl.EVar, impl.EIndex:
		read, _ := m.place(n)
		return read()
	case impl.ESet:
		read, give := m.place(n.Kids[0])
		v := m.exp(n.Kids[1])
		if n.Text != "=" {
			v = m.reckon(n.Text[:1], read(), v)
		}
		give(v)
		return v
	case impl.EPre, impl.EPost:
		read, give := m.place(n.Kids[0])
		before := num(impl.NumOf(read()))
		v := m.reckon(n.Text[:1], before, num(impl.One))
		give(v)
		if n.Kind == impl.EPost {
			return before
		}
		return v
	case impl.ECond:
		if impl.Truth(m.exp(n.Kids[0])) {
			return m.exp(n.Kids[1])
		}
		return m.exp(n.Kids[2])
	case impl.EOr:
		return truthVal(impl.Truth(m.exp(n.Kids[0])) || impl.Truth(m.exp(n.Kids[1])))
	case impl.EAnd:
		return truthVal(impl.Truth(m.exp(n.Kids[0])) && impl.Truth(m.exp(n.Kids[1])))
	case impl.EIn:
		return truthVal(m.find(n.Text, impl.StrOf(m.exp(n.Kids[0]))) >= 0)
	case impl.ENot:
		return truthVal(!impl.Truth(m.exp(n.Kids[0])))
	case impl.ENeg:
		return m.number(impl.Sub(0, impl.NumOf(m.exp(n.Kids[0]))))
	case impl.ECall:
		return m.call(n.Text, n.Kids)
	}
	a := m.exp(n.Kids[0])
	if n.Kind == impl.EMatch {
		return truthVal(impl.Has(m.re(m.reText(n.Kids[1])), impl.StrOf(a)) == (n.Text == "~"))
	}
	b := m.exp(n.Kids[1])
	switch n.Kind {
	case impl.ECmp:
		return truthVal(impl.Holds(n.Text, a, b))
	case impl.ECat:
		return m.made(impl.StrOf(a) + impl.StrOf(b))
	}
	return m.reckon(n.Text, a, b)
}

func (m *meaning) reckon(sign string, a impl.Val, b impl.Val) impl.Val {
	by := map[string]func(int, int) (int, bool){"+": impl.Add, "-": impl.Sub, "*": impl.Mul, "/": impl.Div, "%": impl.Mod, "^": impl.Pow}[sign]
	return m.number(by(impl.NumOf(a), impl.NumOf(b)))
}

// reText tells the Text of an ERe, which is not begun, or what another expression is.
func (m *meaning) reText(n impl.Node) string {
	if n.Kind == impl.ERe {
		return n.Text
	}
	return impl.StrOf(m.exp(n))
}

func (m *meaning) re(s string) impl.Re {
	r, ok := impl.ParseRe(s)
	m.need(ok, impl.RunRe)
	return r
}

func (m *meaning) call(name string, kids []impl.Node) impl.Val {
	switch name {
	case "length":
		if len(kids) == 0 {
			return m.count(len(m.rec.Line))
		}
		return m.count(len(impl.StrOf(m.exp(kids[0]))))
	case "substr":
		s, from, many := impl.StrOf(m.exp(kids[0])), wholeNum(m.exp(kids[1])), math.MaxInt
		if len(kids) == 3 {
			many = wholeNum(m.exp(kids[2]))
		}
		return m.made(impl.Substr(s, from, many))
	case "index":
		s, of := impl.StrOf(m.exp(kids[0])), impl.StrOf(m.exp(kids[1]))
		return m.count(impl.IndexOf(s, of))
	case "tolower":
		return m.made(impl.Lower(impl.StrOf(m.exp(kids[0]))))
	case "toupper":
		return m.made(impl.Upper(impl.StrOf(m.exp(kids[0]))))
	case "int":
		return num(impl.Whole(impl.NumOf(m.exp(kids[0]))))
	case "split":
		return m.split(kids)
	case "sub", "gsub":
		return m.sub(name == "gsub", kids)
	case "match":
		s, wanted := impl.StrOf(m.exp(kids[0])), m.reText(kids[1])
		at, end := impl.FindRe(m.re(wanted), s, 0)
		m.vars["RSTART"], m.vars["RLENGTH"] = m.count(at+1), m.count(end-at)
		if at < 0 {
			m.vars["RLENGTH"] = m.count(-1)
		}
		return m.vars["RSTART"]
	}
	return str(m.form(kids))
}

func (m *meaning) split(kids []impl.Node) impl.Val {
	s, fs := impl.StrOf(m.exp(kids[0])), ""
	if len(kids) == 3 {
		fs = m.reText(kids[2])
	} else {
		fs = m.text("FS")
	}
	list := impl.SplitLine(s, fs)
	list = list[:min(len(list), 60)]
	name := kids[1].Text
	m.arrays[name] = nil
	for i, field := range list {
		m.element(name, impl.DecText(i+1)).val = impl.FromText(m.made(field).S)
	}
	return m.count(len(list))
}

func (m *meaning) sub(all bool, kids []impl.Node) impl.Val {
	wanted, repl := m.reText(kids[0]), impl.StrOf(m.exp(kids[1]))
	read, give := m.fieldPlace(0)
	if len(kids) == 3 {
		read, give = m.place(kids[2])
	}
	has := impl.StrOf(read())
	s, many, ok := impl.Replace(m.re(wanted), repl, has, all)
	m.need(ok, impl.RunFull)
	if many > 0 {
		give(str(s))
	}
	return m.count(many)
}
