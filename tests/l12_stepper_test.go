package tests

import (
	"math"

	"loop.example/g00560/impl"
)

// stepper tells a run by the words of chapter 12. What a step puts or puts out is
// what chapter 10 tells of its node, whose kids are variables that have the values
// that the step takes.
type stepper struct {
	*meaning
	left  int
	stack []impl.Val
	lists [][]cell
}

// wantedMachine tells what RunCode and Steps tell.
func wantedMachine(p []impl.Rule, lines []string, fuel int) (impl.Result, int) {
	if !isRun(p, lines, fuel) {
		return impl.Result{Code: impl.RunNone}, 0
	}
	s := &stepper{meaning: newMeaning(math.MaxInt), left: fuel}
	units := wantedUnits(p)
	s.rule = func(i int) {
		if units[i].When == impl.WPat {
			s.code(units[i].Pat)
			if !impl.Truth(s.taken(1)[0]) {
				return
			}
		}
		s.code(units[i].Body)
	}
	code := s.whole(p, lines)
	return impl.Result{Code: code, Out: s.out}, fuel - s.left
}

func (s *stepper) code(steps []impl.Ins) {
	s.stack, s.lists = nil, nil
	for at := 0; at < len(steps); {
		s.need(s.left > 0, impl.RunFuel)
		s.left--
		at = s.goOn(steps[at], at)
	}
}

func (s *stepper) taken(many int) []impl.Val {
	list := s.stack[len(s.stack)-many:]
	s.stack = s.stack[:len(s.stack)-many]
	return list
}

// kids tells variables with the values that are taken. Their names are no program's,
// and there is one for each place of the stack.
func (s *stepper) kids(many int) []impl.Node {
	list := []impl.Node{}
	for i, v := range s.taken(many) {
		name := "at " + impl.DecText(len(s.stack)+i)
		s.vars[name] = v
		list = append(list, eVar(name))
	}
	return list
}

// goOn tells the place of the step that comes next.
func (s *stepper) goOn(i impl.Ins, at int) int {
	switch i.Op {
	case impl.OpJump:
		return i.N
	case impl.OpZero:
		if !impl.Truth(s.taken(1)[0]) {
			return i.N
		}
	case impl.OpKeys:
		s.lists = append(s.lists, append([]cell{}, s.arrays[i.Name]...))
	case impl.OpKey:
		inner := &s.lists[len(s.lists)-1]
		if len(*inner) == 0 {
			s.lists = s.lists[:len(s.lists)-1]
			return i.N
		}
		_, give := s.place(eVar(i.Name))
		give(str((*inner)[0].key))
		*inner = (*inner)[1:]
	case impl.OpPop:
		s.taken(1)
	case impl.OpPrint:
		s.do(sPrint(s.kids(i.N)...))
	case impl.OpForm:
		s.do(sPrintf(s.kids(i.N)...))
	case impl.OpDel:
		s.do(sDel(i.Name, s.kids(1)[0]))
	case impl.OpNext:
		s.do(sNext())
	case impl.OpExit:
		s.do(sExit())
	default:
		s.stack = append(s.stack, s.exp(s.putting(i)))
	}
	return at + 1
}

// spotOf tells the place of a step, whose kid it takes.
func (s *stepper) spotOf(i impl.Ins) impl.Node {
	if i.Kind == impl.EVar {
		return eVar(i.Name)
	}
	return eNode(i.Kind, i.Name, s.kids(1)...)
}

// putting tells the node whose value a step puts.
func (s *stepper) putting(i impl.Ins) impl.Node {
	switch i.Op {
	case impl.OpNum:
		return impl.Node{Kind: impl.ENum, N: i.N}
	case impl.OpStr:
		return eStr(i.Text)
	case impl.OpRe:
		return eRe(i.Text)
	case impl.OpLoad:
		return s.spotOf(i)
	case impl.OpSet:
		v := s.kids(1)[0]
		return eSet(i.Text, s.spotOf(i), v)
	case impl.OpStep:
		return eNode(map[int]int{0: impl.EPre, 1: impl.EPost}[i.N], i.Text, s.spotOf(i))
	case impl.OpBool:
		return eNot(eNot(s.kids(1)[0]))
	case impl.OpNot:
		return eNot(s.kids(1)[0])
	case impl.OpNeg:
		return eNeg(s.kids(1)[0])
	case impl.OpIn:
		return eIn(s.kids(1)[0], i.Name)
	case impl.OpCall:
		return eCall(i.Text, s.kids(i.N)...)
	case impl.OpSplit:
		kids := s.kids(i.N)
		return eCall("split", append([]impl.Node{kids[0], eVar(i.Name)}, kids[1:]...)...)
	case impl.OpSub:
		to := s.spotOf(i)
		return eCall(i.Text, append(s.kids(2), to)...)
	}
	return eNode(i.Kind, i.Text, s.kids(2)...)
}
