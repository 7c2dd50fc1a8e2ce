package tests

import (
	"slices"
	"strings"

	"loop.example/g00560/impl"
)

// labelled is a code whose jumps go to labels, told by the words of chapter 11. A
// label is a number; at has the place of each one that is set.
type labelled struct {
	steps []impl.Ins
	at    map[int]int
	named int
}

func isJump(op int) bool { return op == impl.OpJump || op == impl.OpZero || op == impl.OpKey }

// wantedSteps tells the code of a pattern or a body.
func wantedSteps(n impl.Node) []impl.Ins {
	l := &labelled{at: map[int]int{}}
	l.node(n)
	for i, step := range l.steps {
		if isJump(step.Op) {
			l.steps[i].N = l.at[step.N]
		}
	}
	return l.steps
}

func wantedUnits(p []impl.Rule) []impl.Unit {
	list := []impl.Unit{}
	for _, rule := range p {
		unit := impl.Unit{When: rule.When, Body: wantedSteps(rule.Body)}
		if rule.When == impl.WPat {
			unit.Pat = wantedSteps(rule.Pat)
		}
		list = append(list, unit)
	}
	return list
}

func (l *labelled) label() int {
	l.named++
	return l.named
}

func (l *labelled) set(label int) { l.at[label] = len(l.steps) }

func (l *labelled) put(steps ...impl.Ins) { l.steps = append(l.steps, steps...) }

func (l *labelled) zero(label int) { l.put(impl.Ins{Op: impl.OpZero, N: label}) }

func (l *labelled) leap(label int) { l.put(impl.Ins{Op: impl.OpJump, N: label}) }

func (l *labelled) nodes(list ...impl.Node) {
	for _, n := range list {
		l.node(n)
	}
}

// re puts the Text of an ERe, or what another expression leaves.
func (l *labelled) re(n impl.Node) {
	if n.Kind == impl.ERe {
		n.Kind = impl.EStr
	}
	l.node(n)
}

func (l *labelled) node(n impl.Node) {
	switch n.Kind {
	case impl.ENum:
		l.put(impl.Ins{Op: impl.OpNum, N: n.N})
	case impl.EStr:
		l.put(impl.Ins{Op: impl.OpStr, Text: n.Text})
	case impl.ERe:
		l.put(impl.Ins{Op: impl.OpRe, Text: n.Text})
	case impl.EField, impl.EVar, impl.EIndex:
		l.nodes(n.Kids...)
		l.put(impl.Ins{Op: impl.OpLoad, Kind: n.Kind, Name: n.Text})
	case impl.ESet:
		l.nodes(n.Kids[0].Kids...)
		l.node(n.Kids[1])
		l.put(impl.Ins{Op: impl.OpSet, Text: n.Text, Kind: n.Kids[0].Kind, Name: n.Kids[0].Text})
	case impl.EPre, impl.EPost:
		l.nodes(n.Kids[0].Kids...)
		l.put(impl.Ins{Op: impl.OpStep, Text: n.Text, N: n.Kind - impl.EPre, Kind: n.Kids[0].Kind, Name: n.Kids[0].Text})
	case impl.ECond, impl.EOr, impl.EAnd:
		l.choice(n)
	case impl.EIn:
		l.node(n.Kids[0])
		l.put(impl.Ins{Op: impl.OpIn, Name: n.Text})
	case impl.EMatch:
		l.node(n.Kids[0])
		l.re(n.Kids[1])
		l.put(impl.Ins{Op: impl.OpTwo, Kind: impl.EMatch, Text: n.Text})
	case impl.ECmp, impl.ECat, impl.EOp:
		l.nodes(n.Kids...)
		l.put(impl.Ins{Op: impl.OpTwo, Kind: n.Kind, Text: n.Text})
	case impl.ENot, impl.ENeg:
		l.node(n.Kids[0])
		l.put(impl.Ins{Op: map[int]int{impl.ENot: impl.OpNot, impl.ENeg: impl.OpNeg}[n.Kind]})
	case impl.ECall:
		l.call(n)
	default:
		l.statement(n)
	}
}

func (l *labelled) choice(n impl.Node) {
	other, behind := l.label(), l.label()
	l.node(n.Kids[0])
	l.zero(other)
	switch n.Kind {
	case impl.ECond:
		l.node(n.Kids[1])
		l.leap(behind)
		l.set(other)
		l.node(n.Kids[2])
	case impl.EOr:
		l.put(impl.Ins{Op: impl.OpNum, N: 1000000})
		l.leap(behind)
		l.set(other)
		l.node(n.Kids[1])
		l.put(impl.Ins{Op: impl.OpBool})
	case impl.EAnd:
		l.node(n.Kids[1])
		l.put(impl.Ins{Op: impl.OpBool})
		l.leap(behind)
		l.set(other)
		l.put(impl.Ins{Op: impl.OpNum, N: 0})
	}
	l.set(behind)
}

func (l *labelled) call(n impl.Node) {
	kids := n.Kids
	switch n.Text {
	case "split":
		l.node(kids[0])
		if len(kids) == 3 {
			l.re(kids[2])
		}
		l.put(impl.Ins{Op: impl.OpSplit, Name: kids[1].Text, N: len(kids) - 1})
		return
	case "sub", "gsub":
		l.re(kids[0])
		l.node(kids[1])
		place := impl.Node{Kind: impl.EField, Kids: []impl.Node{{Kind: impl.ENum}}}
		if len(kids) == 3 {
			place = kids[2]
		}
		l.nodes(place.Kids...)
		l.put(impl.Ins{Op: impl.OpSub, Text: n.Text, Kind: place.Kind, Name: place.Text})
		return
	case "match":
		l.node(kids[0])
		l.re(kids[1])
	default:
		l.nodes(kids...)
	}
	l.put(impl.Ins{Op: impl.OpCall, Text: n.Text, N: len(kids)})
}

func (l *labelled) statement(n impl.Node) {
	begin, other, behind := l.label(), l.label(), l.label()
	switch n.Kind {
	case impl.SExp:
		l.node(n.Kids[0])
		l.put(impl.Ins{Op: impl.OpPop})
	case impl.SPrint:
		l.nodes(n.Kids...)
		l.put(impl.Ins{Op: impl.OpPrint, N: len(n.Kids)})
	case impl.SPrintf:
		l.nodes(n.Kids...)
		l.put(impl.Ins{Op: impl.OpForm, N: len(n.Kids)})
	case impl.SIf:
		l.node(n.Kids[0])
		l.zero(other)
		l.node(n.Kids[1])
		if len(n.Kids) == 3 {
			l.leap(behind)
		}
		l.set(other)
		l.nodes(n.Kids[2:]...)
	case impl.SWhile:
		l.set(begin)
		l.node(n.Kids[0])
		l.zero(behind)
		l.node(n.Kids[1])
		l.leap(begin)
	case impl.SFor:
		l.put(impl.Ins{Op: impl.OpKeys, Name: n.Kids[0].Text})
		l.set(begin)
		l.put(impl.Ins{Op: impl.OpKey, Name: n.Text, N: behind})
		l.node(n.Kids[1])
		l.leap(begin)
	case impl.SNext:
		l.put(impl.Ins{Op: impl.OpNext})
	case impl.SExit:
		l.put(impl.Ins{Op: impl.OpExit})
	case impl.SDel:
		l.node(n.Kids[0])
		l.put(impl.Ins{Op: impl.OpDel, Name: n.Text})
	case impl.SBlock:
		l.nodes(n.Kids...)
	}
	l.set(behind)
}

// wantedIns tells what InsText tells.
func wantedIns(i impl.Ins) string {
	words := strings.Fields("num str re load set step pop jump zero bool in two not neg call split sub print form keys key del next exit")
	if i.Op < 0 || i.Op >= len(words) {
		return ""
	}
	many := ""
	if i.N != 0 {
		many = impl.DecText(i.N)
	}
	behind := slices.DeleteFunc([]string{i.Text, i.Name, many}, func(s string) bool { return s == "" })
	switch words[i.Op] {
	case "num":
		behind = []string{impl.NumText(i.N)}
	case "str":
		behind = []string{impl.Quote(i.Text)}
	case "re":
		behind = []string{"/" + i.Text + "/"}
	}
	return strings.Join(append([]string{words[i.Op]}, behind...), " ")
}

func wantedCodeText(p []impl.Rule) string {
	out := ""
	for _, unit := range wantedUnits(p) {
		out += map[int]string{impl.WAll: "all", impl.WPat: "pattern", impl.WBegin: "begin", impl.WEnd: "end"}[unit.When] + "\n"
		for _, step := range unit.Pat {
			out += "?" + wantedIns(step) + "\n"
		}
		for _, step := range unit.Body {
			out += " " + wantedIns(step) + "\n"
		}
	}
	return out
}

// state is how many values are on the stack, and how many lists of keys are begun,
// where a code is at a place.
type state struct{ values, keys int }

// states goes through a code by all ways, and tells the state at each place that it
// comes to; false where there are two at one place, or too few values.
func states(steps []impl.Ins) (map[int]state, bool) {
	known := map[int]state{0: {}}
	for waiting := []int{0}; len(waiting) > 0; {
		at := waiting[0]
		waiting = waiting[1:]
		if at == len(steps) {
			continue
		}
		nexts, ok := nextStates(steps[at], at, known[at])
		if !ok {
			return known, false
		}
		for place, s := range nexts {
			was, there := known[place]
			if there && was != s || place < 0 || place > len(steps) {
				return known, false
			}
			if !there {
				known[place] = s
				waiting = append(waiting, place)
			}
		}
	}
	return known, true
}

// nextStates tells where a step at a place goes to, and the states there.
func nextStates(i impl.Ins, at int, s state) (map[int]state, bool) {
	kid := 1
	if i.Kind == impl.EVar {
		kid = 0
	}
	takes := map[int]int{impl.OpLoad: kid, impl.OpSet: 1 + kid, impl.OpStep: kid, impl.OpPop: 1, impl.OpZero: 1, impl.OpBool: 1, impl.OpIn: 1, impl.OpTwo: 2, impl.OpNot: 1, impl.OpNeg: 1, impl.OpCall: i.N, impl.OpSplit: i.N, impl.OpSub: 2 + kid, impl.OpPrint: i.N, impl.OpForm: i.N, impl.OpDel: 1}
	puts := []int{impl.OpNum, impl.OpStr, impl.OpRe, impl.OpLoad, impl.OpSet, impl.OpStep, impl.OpBool, impl.OpIn, impl.OpTwo, impl.OpNot, impl.OpNeg, impl.OpCall, impl.OpSplit, impl.OpSub}
	s.values -= takes[i.Op]
	if s.values < 0 {
		return nil, false
	}
	if slices.Contains(puts, i.Op) {
		s.values++
	}
	switch i.Op {
	case impl.OpNext, impl.OpExit:
		return nil, true
	case impl.OpJump:
		return map[int]state{i.N: s}, true
	case impl.OpZero:
		return map[int]state{at + 1: s, i.N: s}, true
	case impl.OpKeys:
		s.keys++
	case impl.OpKey:
		return map[int]state{at + 1: s, i.N: {s.values, s.keys - 1}}, s.keys > 0
	}
	return map[int]state{at + 1: s}, true
}
