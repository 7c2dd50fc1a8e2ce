package tests

import (
	"math"
	"math/big"
	"regexp"
	"strings"
	"testing"

	"loop.example/g00560/impl"
)

const (
	one    = 1000000
	maxNum = 1000000000000
)

type operation struct {
	name string
	does func(a int, b int) (int, bool)
}

func operations() []operation {
	return []operation{
		{"Add", impl.Add}, {"Sub", impl.Sub}, {"Mul", impl.Mul}, {"Div", impl.Div}, {"Mod", impl.Mod}, {"Pow", impl.Pow},
	}
}

// someNumbers tells numbers of every size, with those around the edges.
func someNumbers() []int {
	sizes := []int{
		1, 2, 3, 7, 10, 499999, 500000, 999999, 1000000, 1000001, 1500000, 1999999, 2000000, 2500000, 3000000, 7000000,
		10000000, 123456789, 40000000, 41000000, 999999999, 1000000000, 1000000001, 4294967295, 4294967296, 9223372036,
		31622776601, 333333333333, 499999999999, 500000000000, 500000000001, 999999000000, 999999999998, 999999999999, maxNum,
	}
	numbers := []int{0}
	for _, size := range sizes {
		numbers = append(numbers, size, -size)
	}
	return numbers
}

func noNumbers() []int {
	return []int{
		maxNum + 1, -maxNum - 1, maxNum + 2, 2 * maxNum, -2 * maxNum, maxNum * one, -maxNum * one,
		1 << 62, -(1 << 62), math.MaxInt - 1, math.MaxInt, -math.MaxInt, math.MinInt,
	}
}

func bigOf(n int) *big.Int { return big.NewInt(int64(n)) }

// wanted tells what one of the first five operations answers by integers
// without bounds.
func wanted(name string, a int, b int) (int, bool) {
	if max(a, b) > maxNum || min(a, b) < -maxNum || b == 0 && (name == "Div" || name == "Mod") {
		return 0, false
	}
	answer := new(big.Int)
	switch name {
	case "Add":
		answer.Add(bigOf(a), bigOf(b))
	case "Sub":
		answer.Sub(bigOf(a), bigOf(b))
	case "Mul":
		answer.Mul(bigOf(a), bigOf(b))
		answer.Quo(answer, bigOf(one))
	case "Div":
		answer.Mul(bigOf(a), bigOf(one))
		answer.Quo(answer, bigOf(b))
	case "Mod":
		whole := new(big.Int).Quo(bigOf(a), bigOf(b))
		answer.Sub(bigOf(a), whole.Mul(whole, bigOf(b)))
	}
	if answer.CmpAbs(bigOf(maxNum)) > 0 {
		return 0, false
	}
	return int(answer.Int64()), true
}

func TestNumberConstants(t *testing.T) {
	if impl.One != one || impl.MaxNum != maxNum {
		t.Error(impl.One, impl.MaxNum)
	}
}

func TestOperations(t *testing.T) {
	cases := []struct {
		name       string
		a, b, want int
		ok         bool
	}{
		{"Add", 1500000, 2750000, 4250000, true},
		{"Add", maxNum, 0, maxNum, true},
		{"Add", maxNum - 1, 1, maxNum, true},
		{"Add", maxNum, 1, 0, false},
		{"Add", -maxNum, -1, 0, false},
		{"Add", 1 - maxNum, -1, -maxNum, true},
		{"Add", maxNum, -maxNum, 0, true},
		{"Add", maxNum, maxNum, 0, false},
		{"Add", maxNum + 1, -5, 0, false},
		{"Add", -5, maxNum + 1, 0, false},
		{"Add", math.MaxInt, math.MaxInt, 0, false},
		{"Add", math.MaxInt, -math.MaxInt, 0, false},
		{"Add", math.MinInt, math.MinInt, 0, false},
		{"Sub", one, 2500000, -1500000, true},
		{"Sub", maxNum, maxNum, 0, true},
		{"Sub", -maxNum, 1, 0, false},
		{"Sub", 1, -maxNum, 0, false},
		{"Sub", 0, -maxNum, maxNum, true},
		{"Sub", 0, maxNum, -maxNum, true},
		{"Sub", maxNum + 1, maxNum, 0, false},
		{"Sub", maxNum, maxNum + 1, 0, false},
		{"Sub", math.MinInt, math.MinInt, 0, false},
		{"Mul", 1500000, -2500000, -3750000, true},
		{"Mul", 1000, 1500, 1, true},
		{"Mul", 1000, 999, 0, true},
		{"Mul", -1000, 999, 0, true},
		{"Mul", -1, 1999999, -1, true},
		{"Mul", -1, -1999999, 1, true},
		{"Mul", 1999999, 1999999, 3999996, true},
		{"Mul", 1999999, -1999999, -3999996, true},
		{"Mul", maxNum, one, maxNum, true},
		{"Mul", -maxNum, one, -maxNum, true},
		{"Mul", maxNum, -one, -maxNum, true},
		{"Mul", maxNum, one + 1, 0, false},
		{"Mul", one + 1, 999999000000, 999999999999, true},
		{"Mul", 1000000000, 1000000000, maxNum, true},
		{"Mul", 1000000000, -1000000000, -maxNum, true},
		{"Mul", 1000000001, 1000000000, 0, false},
		{"Mul", 73 * one, 13698630136, 999999999928, true},
		{"Mul", 73 * one, 13698630137, 0, false}, // beyond by one
		{"Mul", -73 * one, 13698630137, 0, false},
		{"Mul", maxNum, maxNum, 0, false},
		{"Mul", maxNum, -maxNum, 0, false},
		{"Mul", 4294967296, 4294967296, 0, false},
		{"Mul", maxNum, 0, 0, true},
		{"Mul", maxNum + 1, 0, 0, false},
		{"Mul", 0, -maxNum - 1, 0, false},
		{"Mul", math.MinInt, math.MinInt, 0, false},
		{"Div", one, 3000000, 333333, true},
		{"Div", -one, 3000000, -333333, true},
		{"Div", one, -3000000, -333333, true},
		{"Div", -one, -3000000, 333333, true},
		{"Div", 2 * one, 3000000, 666666, true},
		{"Div", -2 * one, 3000000, -666666, true},
		{"Div", 1, maxNum, 0, true},
		{"Div", -1, maxNum, 0, true},
		{"Div", maxNum, maxNum, one, true},
		{"Div", maxNum, -maxNum, -one, true},
		{"Div", maxNum, one, maxNum, true},
		{"Div", maxNum, -one, -maxNum, true},
		{"Div", maxNum, one - 1, 0, false},
		{"Div", maxNum, 500000, 0, false},
		{"Div", maxNum, 1, 0, false},
		{"Div", -maxNum, 1, 0, false},
		{"Div", one, 1, maxNum, true},
		{"Div", one + 1, 1, 0, false},
		{"Div", 999999000000, one - 1, maxNum, true},
		{"Div", 999999000001, one - 1, 0, false}, // beyond by one
		{"Div", -999999000001, one - 1, 0, false},
		{"Div", 0, 1, 0, true},
		{"Div", 0, 0, 0, false},
		{"Div", one, 0, 0, false},
		{"Div", maxNum + 1, maxNum, 0, false},
		{"Div", maxNum, maxNum + 1, 0, false},
		{"Div", math.MinInt, -1, 0, false},
		{"Mod", 7 * one, 3 * one, one, true},
		{"Mod", -7500000, 2 * one, -1500000, true},
		{"Mod", 7500000, -2 * one, 1500000, true},
		{"Mod", -7500000, -2 * one, -1500000, true},
		{"Mod", one, 300000, 100000, true},
		{"Mod", 0, 5, 0, true},
		{"Mod", 5, maxNum, 5, true},
		{"Mod", maxNum, maxNum, 0, true},
		{"Mod", maxNum, 3, 1, true},
		{"Mod", -maxNum, 7, -1, true},
		{"Mod", maxNum, 1, 0, true},
		{"Mod", one, 0, 0, false},
		{"Mod", 0, 0, 0, false},
		{"Mod", maxNum + 1, 3, 0, false},
		{"Mod", 3, maxNum + 1, 0, false},
		{"Mod", math.MinInt, -1, 0, false},
	}
	for _, c := range cases {
		for _, o := range operations() {
			if o.name != c.name {
				continue
			}
			if got, ok := o.does(c.a, c.b); got != c.want || ok != c.ok {
				t.Errorf("%s(%d, %d) = %d, %v", c.name, c.a, c.b, got, ok)
			}
		}
	}
}

func TestOperationsAreExact(t *testing.T) {
	numbers := append(someNumbers(), noNumbers()...)
	for _, o := range operations()[:5] {
		for _, a := range numbers {
			for _, b := range numbers {
				want, wantOk := wanted(o.name, a, b)
				if got, ok := o.does(a, b); got != want || ok != wantOk {
					t.Errorf("%s(%d, %d) = %d, %v, not %d, %v", o.name, a, b, got, ok, want, wantOk)
				}
			}
		}
	}
}

func TestSmallOperationsAreExact(t *testing.T) {
	for _, o := range operations()[:5] {
		for first := -60; first <= 60; first++ {
			for second := -60; second <= 60; second++ {
				a, b := first*123457, second*98765
				want, wantOk := wanted(o.name, a, b)
				if got, ok := o.does(a, b); got != want || ok != wantOk {
					t.Errorf("%s(%d, %d) = %d, %v, not %d, %v", o.name, a, b, got, ok, want, wantOk)
				}
			}
		}
	}
}

func TestSumsAndDifferencesTakeOneAnotherBack(t *testing.T) {
	for _, a := range someNumbers() {
		for _, b := range someNumbers() {
			if sum, ok := impl.Add(a, b); ok {
				if back, ok := impl.Sub(sum, b); back != a || !ok {
					t.Errorf("%d and %d make %d, which goes back to %d", a, b, sum, back)
				}
			}
			if rest, ok := impl.Sub(a, b); ok {
				if back, ok := impl.Add(rest, b); back != a || !ok {
					t.Errorf("%d less %d is %d, which goes back to %d", a, b, rest, back)
				}
			}
		}
	}
}

func TestQuotientAndWhatIsLeftMakeTheFirstOne(t *testing.T) {
	for _, a := range someNumbers() {
		for _, b := range someNumbers() {
			quotient, ok := impl.Div(a, b)
			if !ok {
				continue
			}
			times, timesOk := impl.Mul(impl.Whole(quotient), b)
			left, leftOk := impl.Mod(a, b)
			again, ok := impl.Add(times, left)
			if again != a || !ok || !timesOk || !leftOk {
				t.Errorf("%d by %d is %d, and %d is left", a, b, quotient, left)
			}
			if max(left, -left) >= max(b, -b) || a < 0 && left > 0 || a > 0 && left < 0 {
				t.Errorf("of %d by %d %d is left", a, b, left)
			}
		}
	}
}

func TestPow(t *testing.T) {
	cases := []struct {
		a, b, want int
		ok         bool
	}{
		{2 * one, 10 * one, 1024 * one, true},
		{1500000, 2 * one, 2250000, true},
		{-2 * one, 3 * one, -8 * one, true},
		{-2 * one, 2 * one, 4 * one, true},
		{2 * one, 19 * one, 524288 * one, true},
		{2 * one, 20 * one, 0, false},
		{-2 * one, 20 * one, 0, false},
		{100000, 6 * one, 1, true},
		{100000, 7 * one, 0, true},
		{-100000, 5 * one, -10, true},
		{-333333, 3 * one, -37036, true},
		{1100000, 3 * one, 1331000, true},
		{1001001, 3 * one, 1003006, true},
		{one, 40 * one, one, true},
		{-one, 40 * one, one, true},
		{-one, 39 * one, -one, true},
		{one, 41 * one, 0, false},
		{0, 41 * one, 0, false},
		{one, 40*one + 1, 0, false},
		{0, 40 * one, 0, true},
		{0, 0, one, true},
		{5 * one, 0, one, true},
		{maxNum, 0, one, true},
		{-maxNum, 0, one, true},
		{maxNum, one, maxNum, true},
		{-maxNum, one, -maxNum, true},
		{maxNum, 2 * one, 0, false},
		{1000 * one, 2 * one, maxNum, true},
		{-100 * one, 3 * one, -maxNum, true},
		{1000*one + 1, 2 * one, 0, false},
		{maxNum + 1, one, 0, false},
		{-maxNum - 1, 2 * one, 0, false},
		{math.MinInt, 40 * one, 0, false},
		{one, 1, 0, false},
		{one, 2, 0, false},
		{2 * one, 500000, 0, false},
		{2 * one, 1500000, 0, false},
		{2 * one, 999999, 0, false},
		{0, 39999999, 0, false},
		{one, -one, 0, false},
		{one, -1, 0, false},
		{one, -40 * one, 0, false},
		{one, maxNum, 0, false},
		{one, maxNum + one, 0, false},
		{one, -maxNum - one, 0, false},
		{one, math.MaxInt, 0, false},
		{one, math.MinInt, 0, false},
	}
	for _, c := range cases {
		if got, ok := impl.Pow(c.a, c.b); got != c.want || ok != c.ok {
			t.Errorf("Pow(%d, %d) = %d, %v", c.a, c.b, got, ok)
		}
	}
}

func powByMul(a int, times int) (int, bool) {
	power, ok := one, true
	for range times {
		if power, ok = wanted("Mul", power, a); !ok {
			return 0, false
		}
	}
	return power, true
}

func TestPowIsMulManyTimes(t *testing.T) {
	numbers := append(someNumbers(), 1000100, 1010101, 1100000, 1412537, 1412538, 1700000, -1300001, 990000, -900001, 100000, -99999)
	for _, a := range numbers {
		for times := range 41 {
			want, wantOk := powByMul(a, times)
			if got, ok := impl.Pow(a, times*one); got != want || ok != wantOk {
				t.Errorf("Pow(%d, %d) = %d, %v, not %d, %v", a, times*one, got, ok, want, wantOk)
			}
		}
	}
}

func TestWhole(t *testing.T) {
	cases := map[int]int{
		0: 0, 1: 0, -1: 0, 999999: 0, -999999: 0, one: one, -one: -one, 1000001: one, 1999999: one, -1999999: -one,
		2000000: 2000000, -2000001: -2000000, maxNum: maxNum, -maxNum: -maxNum, maxNum - 1: 999999000000, 1 - maxNum: -999999000000,
		maxNum + 1: maxNum, math.MaxInt: 9223372036854000000, math.MinInt: -9223372036854000000,
	}
	for a, want := range cases {
		if got := impl.Whole(a); got != want {
			t.Errorf("Whole(%d) = %d", a, got)
		}
	}
}

func TestNumText(t *testing.T) {
	cases := map[int]string{
		0: "0", 1: "0.000001", -1: "-0.000001", 10: "0.00001", 100000: "0.1", 120000: "0.12", 500000: "0.5", -500000: "-0.5",
		999999: "0.999999", one: "1", -one: "-1", 1000001: "1.000001", 1000010: "1.00001", 1500000: "1.5", -3100000: "-3.1",
		10 * one: "10", 100 * one: "100", -120 * one: "-120", 100*one + 100: "100.0001", 10203040: "10.20304", 1020300: "1.0203",
		maxNum: "1000000", -maxNum: "-1000000", maxNum - 1: "999999.999999", 1 - maxNum: "-999999.999999", 500000 * one: "500000",
	}
	for a, want := range cases {
		if got := impl.NumText(a); got != want {
			t.Errorf("NumText(%d) = %q", a, got)
		}
	}
	for _, a := range noNumbers() {
		if got := impl.NumText(a); got != "" {
			t.Errorf("NumText(%d) = %q", a, got)
		}
	}
}

func TestNumbersComeBackFromTheirTexts(t *testing.T) {
	form := regexp.MustCompile(`^-?(0|[1-9][0-9]*)(\.[0-9]{0,5}[1-9])?$`)
	numbers := someNumbers()
	for n := range 3000 {
		numbers = append(numbers, n, -n, one-n, n*333333333, -n*333333333, maxNum-n, n-maxNum, n*one, n*1000, n*10)
	}
	for _, a := range numbers {
		s := impl.NumText(a)
		if n, next := impl.ReadNum(s); n != a || next != len(s) {
			t.Fatalf("%d is told as %q, which is read as %d, %d", a, s, n, next)
		}
		if !impl.LooksNum(s) || !form.MatchString(s) {
			t.Fatalf("%d is told as %q", a, s)
		}
	}
}

func TestReadNum(t *testing.T) {
	cases := []struct {
		s       string
		n, next int
	}{
		{"0", 0, 1}, {"7", 7 * one, 1}, {"12", 12 * one, 2}, {"-12", -12 * one, 3}, {"+12", 12 * one, 3}, {"-0", 0, 2}, {"+0.0", 0, 4},
		{"1.5", 1500000, 3}, {"-3.10", -3100000, 5}, {"0.000001", 1, 8}, {"-0.000001", -1, 9},
		{"5.", 5 * one, 2}, {"+7.", 7 * one, 3}, {"-0.", 0, 3}, {"5.x", 5 * one, 2}, {"5..5", 5 * one, 2}, {"5. 5", 5 * one, 2}, {"5.-5", 5 * one, 2},
		{".5", 500000, 2}, {"-.5", -500000, 3}, {"+.25", 250000, 4}, {".0", 0, 2}, {"..5", 0, 0}, {" .5.5", 500000, 3},
		{".", 0, 0}, {"-.", 0, 0}, {"+.", 0, 0}, {" .", 0, 0}, {". 5", 0, 0}, {".x", 0, 0}, {"-.x", 0, 0}, {".-5", 0, 0},
		{"  12x", 12 * one, 4}, {"\t\n 12", 12 * one, 5}, {"\n-1", -one, 3}, {" \n\t+.5 ", 500000, 6}, {"12 ", 12 * one, 2}, {"1 2", one, 1},
		{"", 0, 0}, {" ", 0, 0}, {"\n", 0, 0}, {"x", 0, 0}, {"-", 0, 0}, {"+", 0, 0}, {"--1", 0, 0}, {"+-1", 0, 0}, {"-+1", 0, 0},
		{"- 1", 0, 0}, {"+\t1", 0, 0}, {"-\n1", 0, 0}, {"\r1", 0, 0}, {"\v1", 0, 0}, {"\f1", 0, 0}, {"\x001", 0, 0}, {"\u00a01", 0, 0}, {"x1", 0, 0},
		{"1-2", one, 1}, {"1+2", one, 1}, {"1e5", one, 1}, {"0x10", 0, 1}, {"1,5", one, 1}, {"1_0", one, 1}, {" 1.5.2", 1500000, 4}, {"1/2", one, 1}, {"1:2", one, 1},
		{"007", 7 * one, 3}, {"-007.50", -7500000, 7}, {"00", 0, 2}, {"00.5", 500000, 4}, {"0000000001000000", maxNum, 16},
		{"1.2345678", 1234567, 9}, {"1.9999999", 1999999, 9}, {"-1.9999999", -1999999, 10}, {"0.0000009", 0, 9}, {"-0.0000009", 0, 10}, {".1234569x", 123456, 8},
		{"1.0000010", 1000001, 9}, {"1.000000x", one, 8},
		{"1000000", maxNum, 7}, {"-1000000", -maxNum, 8}, {"1000000.", maxNum, 8}, {"1000000.000000", maxNum, 14}, {"1000000.0000009", maxNum, 15}, {"-1000000.0000009", -maxNum, 16},
		{"999999.999999", maxNum - 1, 13}, {"999999.9999999", maxNum - 1, 14}, {"-999999.999999", 1 - maxNum, 14},
		{"1000000.000001", 0, 0}, {"-1000000.000001", 0, 0}, {"1000001", 0, 0}, {"-1000001", 0, 0}, {"10000000", 0, 0}, {"2000000x", 0, 0}, {" 1000001 ", 0, 0},
		{"9223372036854775807", 0, 0}, {"-9223372036854775808", 0, 0}, {"18446744073709551616", 0, 0}, {"18446744073709551617", 0, 0}, {"18446744073709.551616", 0, 0},
		{"\u0661", 0, 0}, {"1\u0661", one, 1}, {"1.\u0661", one, 2}, {"\xff1", 0, 0}, {"1\xff", one, 1}, {"\uff11", 0, 0},
	}
	for _, c := range cases {
		if n, next := impl.ReadNum(c.s); n != c.n || next != c.next {
			t.Errorf("ReadNum(%q) = %d, %d", c.s, n, next)
		}
	}
}

func TestNumbersOfSixtyBytes(t *testing.T) {
	cases := []struct {
		head, unit, tail string
		n                int
	}{
		{"", "0", "7", 7 * one},
		{"-", "0", "7.5", -7500000},
		{"+", "0", "1000000", maxNum},
		{"", "0", "", 0},
		{"", "0", ".", 0},
		{".", "0", "", 0},
		{"1.", "0", "", one},
		{"-.5", "9", "", -599999},
		{".", "1", "", 111111},
		{"0.00000", "9", "", 9},
		{"", " ", "1", one},
		{" \n", "\t", "-1.5", -1500000},
		{"", "\n", "+1.", one},
		{" ", "0", "1", one},
	}
	for _, c := range cases {
		for _, behind := range []string{"", " ", "x", "-1", strings.Repeat(" ", 100)} {
			just := c.head + strings.Repeat(c.unit, 60-len(c.head)-len(c.tail)) + c.tail
			more := c.head + strings.Repeat(c.unit, 61-len(c.head)-len(c.tail)) + c.tail
			if n, next := impl.ReadNum(just + behind); n != c.n || next != 60 {
				t.Errorf("ReadNum(%q) = %d, %d", just+behind, n, next)
			}
			if n, next := impl.ReadNum(more + behind); n != 0 || next != 0 {
				t.Errorf("ReadNum(%q) = %d, %d", more+behind, n, next)
			}
			blank := strings.Trim(behind, " ") == ""
			if impl.LooksNum(just+behind) != blank || impl.LooksNum(more+behind) {
				t.Errorf("LooksNum of %q or %q", just+behind, more+behind)
			}
		}
	}
	for _, size := range []int{20, 40, 54, 59, 60, 61, 64, 100, 5000} {
		for _, digit := range []string{"1", "9", "8"} {
			s := strings.Repeat(digit, size)
			if n, next := impl.ReadNum(s); n != 0 || next != 0 || impl.LooksNum(s) {
				t.Errorf("ReadNum of %d times %s = %d, %d", size, digit, n, next)
			}
		}
	}
}

var numberForm = regexp.MustCompile(`^[ \t\n]*([+-]?)([0-9]+\.?[0-9]*|\.[0-9]+)`)

// wantedNumber tells what ReadNum answers, by an expression for the form and
// integers without bounds.
func wantedNumber(s string) (int, int) {
	found := numberForm.FindStringSubmatch(s)
	if found == nil || len(found[0]) > 60 {
		return 0, 0
	}
	whole, behind, _ := strings.Cut(found[2], ".")
	behind = (behind + "000000")[:6]
	n, _ := new(big.Int).SetString(whole+behind, 10)
	if n.Cmp(bigOf(maxNum)) > 0 {
		return 0, 0
	}
	if found[1] == "-" {
		n.Neg(n)
	}
	return int(n.Int64()), len(found[0])
}

func checkNumber(t *testing.T, s string) {
	want, wantNext := wantedNumber(s)
	if n, next := impl.ReadNum(s); n != want || next != wantNext {
		t.Errorf("ReadNum(%q) = %d, %d, not %d, %d", s, n, next, want, wantNext)
	}
	looks := wantNext > 0 && strings.Trim(s[wantNext:], " \t\n") == ""
	if impl.LooksNum(s) != looks {
		t.Errorf("LooksNum(%q) = %v", s, !looks)
	}
}

func TestReadNumByItsForm(t *testing.T) {
	for _, s := range allTexts(" \t\n+-.01x", 5) {
		checkNumber(t, s)
	}
	for _, tail := range allTexts("019. ", 5) {
		for _, head := range []string{"-.", "100000", "999999.9", "-1000000.000", "1.23456", "\n+00", strings.Repeat("0", 53), strings.Repeat(" ", 57)} {
			checkNumber(t, head+tail)
		}
	}
}

func TestEveryByteAroundANumber(t *testing.T) {
	for n := range 256 {
		b := string([]byte{byte(n)})
		for _, s := range []string{b, b + "1", "1" + b, "1" + b + "1", "1." + b, "." + b, "-" + b, "-" + b + "1", b + ".5", "1" + b + " ", " " + b + "2"} {
			checkNumber(t, s)
		}
	}
}

func TestLooksNum(t *testing.T) {
	cases := map[string]bool{
		"0": true, "12": true, " 1 \n": true, "-1.5": true, "+1": true, "5.": true, ".5": true, "5. ": true, "007": true, "1\t\n \t": true,
		"\n\t 1": true, "1000000": true, "1.23456789": true, "1" + strings.Repeat(" \t\n", 2000): true,
		"": false, " ": false, "\n": false, "x": false, ".": false, "-": false, "+.": false, "- 1": false, "1x": false, "1 x": false,
		"1 2": false, "1.5.2": false, "1..": false, "1-": false, "1 -": false, "1e5": false, "0x1": false, "1\r": false, "1\v": false, "1\f": false,
		"1\x00": false, "1\xff": false, "1\u00a0": false, "1,000": false, "1000001": false, "-1000000.000001": false, "1000001 ": false,
		"1 .": false, "1 0": false,
	}
	for s, want := range cases {
		if got := impl.LooksNum(s); got != want {
			t.Errorf("LooksNum(%q) = %v", s, got)
		}
	}
}

// Promise 17: what is no number is refused on either side by all of these, and
// nothing panics.
func TestWhatIsNoNumberIsRefused(t *testing.T) {
	for _, o := range operations() {
		for _, bad := range noNumbers() {
			others := append(someNumbers(), noNumbers()...)
			for _, other := range others {
				if n, ok := o.does(other, bad); n != 0 || ok {
					t.Errorf("%s(%d, %d) = %d, %v", o.name, other, bad, n, ok)
				}
				// Pow by 0 asks for no Mul, and so none of these is false.
				want, wantOk := 0, false
				if o.name == "Pow" && other == 0 {
					want, wantOk = one, true
				}
				if n, ok := o.does(bad, other); n != want || ok != wantOk {
					t.Errorf("%s(%d, %d) = %d, %v", o.name, bad, other, n, ok)
				}
			}
		}
	}
}

func TestNumbersInTextsOfEverySize(t *testing.T) {
	for _, size := range []int{impl.MaxText - 1, impl.MaxText, impl.MaxText + 1, 100000} {
		for _, unit := range []string{"0", "9", " ", "\n", ".", "-", "+", "\xff", "1.", " 1"} {
			many := strings.Repeat(unit, size)
			for _, s := range []string{many, "1" + many, many + "1", "1." + many, "-." + many} {
				checkNumber(t, s)
			}
		}
	}
}
