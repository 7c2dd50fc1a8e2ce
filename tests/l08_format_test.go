package tests

import (
	"fmt"
	"math"
	"math/big"
	"math/rand"
	"regexp"
	"slices"
	"strconv"
	"strings"
	"testing"
	"time"

	"loop.example/g00560/impl"
)

// forms tells some texts told with one value in one form.
type forms struct {
	v     impl.Val
	wants map[string]string
}

func (f forms) check(t *testing.T) {
	t.Helper()
	for form, want := range f.wants {
		if got, ok := impl.Sprintf(form, []impl.Val{f.v}); !ok || got != want {
			t.Errorf("Sprintf(%.80q, %#v) = %.200q, %v, not %.200q", form, f.v, got, ok, want)
		}
	}
}

func checkNoForm(t *testing.T, form string) {
	t.Helper()
	for _, list := range [][]impl.Val{nil, {num(one)}, slices.Repeat([]impl.Val{str("a")}, 50)} {
		if got, ok := impl.Sprintf(form, list); ok || got != "" {
			t.Errorf("Sprintf(%.80q, %d values) = %.80q, %v", form, len(list), got, ok)
		}
	}
	if got := impl.Places(form); got != -1 {
		t.Errorf("Places(%.80q) = %d", form, got)
	}
}

var placeForm = regexp.MustCompile(`^%(?:%|([-0]*)([1-9][0-9]?)?(?:\.([0-6]))?([discfxo]))`)

// wantedForm tells a form by an expression for its places: its text, of whatever
// size, and how many values it takes, -1 where there is none.
func wantedForm(form string, list []impl.Val) (string, int) {
	out, many := "", 0
	for form != "" {
		if form[0] != '%' {
			out, form = out+form[:1], form[1:]
			continue
		}
		parts := placeForm.FindStringSubmatch(form)
		if parts == nil {
			return "", -1
		}
		form = form[len(parts[0]):]
		if parts[4] == "" {
			out += "%"
			continue
		}
		v := impl.Val{}
		if many < len(list) {
			v = list[many]
		}
		many++
		out += wantedTold(v, parts)
	}
	return out, many
}

func wantedTold(v impl.Val, parts []string) string {
	flags, kind := parts[1], parts[4]
	width, _ := strconv.Atoi(parts[2])
	s := wantedBare(v, kind, parts[3])
	noughts := strings.Contains(flags, "0") && strings.Contains("dixof", kind)
	return wantedFill(s, width, strings.Contains(flags, "-"), noughts)
}

func wantedBare(v impl.Val, kind string, precision string) string {
	text, n := impl.StrOf(v), impl.NumOf(v)
	whole := new(big.Int).Quo(bigOf(n), bigOf(one))
	switch kind {
	case "d", "i":
		return whole.String()
	case "x":
		return fmt.Sprintf("%x", uint64(whole.Int64()))
	case "o":
		return fmt.Sprintf("%o", uint64(whole.Int64()))
	case "f":
		digits := 6
		if precision != "" {
			digits, _ = strconv.Atoi(precision)
		}
		return wantedFixed(n, digits)
	case "s":
		if most, err := strconv.Atoi(precision); err == nil {
			return text[:min(most, len(text))]
		}
		return text
	}
	if v.Kind == impl.VNum {
		remainder := new(big.Int).Mod(whole, bigOf(256)).Int64()
		return string([]byte{byte(remainder)})
	}
	return text[:min(1, len(text))]
}

func wantedFill(s string, width int, left bool, nought bool) string {
	if width < 0 || width > 99 {
		return s
	}
	for len(s) < width {
		switch {
		case left:
			s += " "
		case !nought:
			s = " " + s
		case strings.HasPrefix(s, "-"):
			s = "-0" + s[1:]
		default:
			s = "0" + s
		}
	}
	return s
}

func wantedFixed(a int, digits int) string {
	if a < -maxNum || a > maxNum || digits < 0 || digits > 6 {
		return ""
	}
	sign := ""
	if a < 0 {
		sign, a = "-", -a
	}
	all := fmt.Sprintf("%07d", a)
	point := len(all) - 6
	if digits == 0 {
		return sign + all[:point]
	}
	return sign + all[:point] + "." + all[point:point+digits]
}

func checkForm(t *testing.T, form string, list []impl.Val) {
	t.Helper()
	want, many := wantedForm(form, list)
	ok := many >= 0 && len(want) <= impl.MaxText
	if !ok {
		want = ""
	}
	if got, gotOk := impl.Sprintf(form, list); got != want || gotOk != ok {
		t.Fatalf("Sprintf(%.300q, %.300v) = %.300q, %v, not %.300q, %v", form, list, got, gotOk, want, ok)
	}
	if got := impl.Places(form); got != many {
		t.Fatalf("Places(%.300q) = %d, not %d", form, got, many)
	}
}

func TestSprintf(t *testing.T) {
	cases := []struct {
		form string
		list []impl.Val
		want string
	}{
		{"", nil, ""}, {"", []impl.Val{num(one)}, ""}, {"abc", nil, "abc"}, {"a\n\x00\xff\u00e4", nil, "a\n\x00\xff\u00e4"}, {"\\n", nil, "\\n"}, {"d-05.3s", []impl.Val{num(one)}, "d-05.3s"},
		{"%%", nil, "%"}, {"%%%%", nil, "%%"}, {"%%d", []impl.Val{num(one)}, "%d"}, {"%%%d", []impl.Val{num(one)}, "%1"}, {"%d%%", []impl.Val{num(one)}, "1%"}, {"100%%\n", nil, "100%\n"},
		{"%d", []impl.Val{num(5 * one)}, "5"}, {"<%d>", []impl.Val{num(5 * one)}, "<5>"}, {"%d %s %d", []impl.Val{num(one), str("b"), look("3", 3*one)}, "1 b 3"}, {"%s%s", []impl.Val{str("a"), str("b"), str("c")}, "ab"},
		{"%-8s|%6.2f|", []impl.Val{str("name"), num(3141592)}, "name    |  3.14|"}, {"%d%s", []impl.Val{str("%d"), str("%")}, "0%"}, {"%s%s", []impl.Val{str("%s"), str("%%")}, "%s%%"},
		{"%d%d%d", []impl.Val{num(one)}, "100"}, {"%s|%s|%s", []impl.Val{num(one), none(), str("x")}, "1||x"}, {"%%%s%%%s%%", []impl.Val{str("a"), str("b")}, "%a%b%"},
		{"%dd%ss", []impl.Val{num(one), str("s")}, "1dss"}, {"%d5", []impl.Val{num(one)}, "15"}, {"%c%c", []impl.Val{num(72 * one), num(105 * one)}, "Hi"},
	}
	for _, c := range cases {
		if got, ok := impl.Sprintf(c.form, c.list); !ok || got != c.want {
			t.Errorf("Sprintf(%q, %v) = %q, %v, not %q", c.form, c.list, got, ok, c.want)
		}
		checkForm(t, c.form, c.list)
	}
}

func TestFormsOfWholes(t *testing.T) {
	list := []forms{
		{num(42 * one), map[string]string{"%d": "42", "%i": "42", "%5d": "   42", "%05d": "00042", "%-5d|": "42   |", "%1d": "42", "%2d": "42", "%3i": " 42", "%.0d": "42", "%.1d": "42", "%.6d": "42", "%06.3i": "000042", "%x": "2a", "%o": "52", "%4x": "  2a", "%04o": "0052", "%-4x|": "2a  |", "%.1x": "2a", "%5.6o": "   52"}},
		{num(-42 * one), map[string]string{"%d": "-42", "%5i": "  -42", "%05d": "-0042", "%03d": "-42", "%04i": "-042", "%-5d|": "-42  |", "%-05d|": "-42  |", "%x": "ffffffffffffffd6", "%o": "1777777777777777777726", "%018x": "00ffffffffffffffd6", "%16x": "ffffffffffffffd6", "%17x": " ffffffffffffffd6", "%024o": "001777777777777777777726"}},
		{num(0), map[string]string{"%d": "0", "%i": "0", "%x": "0", "%o": "0", "%3d": "  0", "%03x": "000", "%-3o|": "0  |"}},
		{num(999999), map[string]string{"%d": "0", "%x": "0", "%o": "0"}},
		{num(-999999), map[string]string{"%d": "0", "%05d": "00000", "%x": "0", "%o": "0", "%.6i": "0"}},
		{num(-1999999), map[string]string{"%d": "-1", "%x": "ffffffffffffffff", "%o": "1777777777777777777777"}},
		{num(maxNum), map[string]string{"%d": "1000000", "%x": "f4240", "%o": "3641100", "%010i": "0001000000"}},
		{num(-maxNum), map[string]string{"%d": "-1000000", "%010i": "-001000000", "%x": "fffffffffff0bdc0"}},
		{str(" -7.9x"), map[string]string{"%d": "-7", "%i": "-7", "%x": "fffffffffffffff9", "%04d": "-007"}},
		{str("abc"), map[string]string{"%d": "0", "%x": "0", "%o": "0", "%03i": "000"}},
		{str("0x1f"), map[string]string{"%d": "0", "%x": "0"}},
		{str("1e3"), map[string]string{"%d": "1"}},
		{look(" 8.5 ", 8500000), map[string]string{"%d": "8", "%i": "8", "%x": "8", "%o": "10", "%s": " 8.5 ", "%f": "8.500000"}},
		{look("-0", 0), map[string]string{"%d": "0", "%s": "-0", "%f": "0.000000", "%c": "-"}},
	}
	for _, f := range list {
		f.check(t)
	}
}

func TestFormsOfTexts(t *testing.T) {
	list := []forms{
		{str("abc"), map[string]string{"%s": "abc", "%.0s": "", "%.1s": "a", "%.2s": "ab", "%.3s": "abc", "%.6s": "abc", "%5s": "  abc", "%-5s|": "abc  |", "%05s": "  abc", "%-05s|": "abc  |", "%0-5s|": "abc  |", "%3s": "abc", "%2s": "abc", "%5.2s": "   ab", "%-5.2s|": "ab   |", "%05.0s": "     ", "%0s": "abc", "%c": "a", "%3c": "  a", "%-3c|": "a  |", "%03c": "  a", "%.0c": "a", "%.6c": "a"}},
		{str(""), map[string]string{"%s": "", "%3s": "   ", "%-3s|": "   |", "%03s": "   ", "%.2s": "", "%c": "", "%3c": "   ", "%03c": "   ", "%-3c|": "   |"}},
		{str("-5"), map[string]string{"%5s": "   -5", "%05s": "   -5", "%-5s|": "-5   |", "%04c": "   -"}},
		{str("\u00e4\xff"), map[string]string{"%s": "\u00e4\xff", "%.1s": "\xc3", "%.2s": "\u00e4", "%4s": " \u00e4\xff", "%c": "\xc3", "%-2c|": "\xc3 |"}},
		{str("\x00a"), map[string]string{"%s": "\x00a", "%c": "\x00", "%3c": "  \x00"}},
		{str("65"), map[string]string{"%c": "6", "%s": "65", "%d": "65"}},
		{look("65", 65*one), map[string]string{"%c": "6", "%s": "65", "%d": "65"}},
		{look(" 65", 65*one), map[string]string{"%c": " ", "%.2s": " 6", "%x": "41"}},
		{num(-1500000), map[string]string{"%s": "-1.5", "%.2s": "-1", "%.3s": "-1.", "%6s": "  -1.5", "%06s": "  -1.5", "%-6s|": "-1.5  |"}},
		{num(10 * one), map[string]string{"%s": "10", "%.1s": "1", "%.0s": ""}},
		{str("%d"), map[string]string{"%s": "%d", "%c": "%", "%.1s": "%", "%5s": "   %d"}},
		{str(strings.Repeat("a", 200)), map[string]string{"%99s": strings.Repeat("a", 200), "%.6s": "aaaaaa", "%99.6s": strings.Repeat(" ", 93) + "aaaaaa", "%c": "a", "%d": "0"}},
	}
	for _, f := range list {
		f.check(t)
	}
}

// c of a VNum tells a byte for every whole number, those of a - and those beyond
// 255 by their remainder; of what is no VNum it tells the first byte of a text.
func TestFormsOfBytes(t *testing.T) {
	bytes := map[int]byte{
		0: 0, 65: 65, 255: 255, 256: 0, 257: 1, 321: 65, 511: 255, 512: 0, 1000000: 64, -1: 255, -2: 254, -128: 128, -255: 1, -256: 0, -257: 255, -191: 65, -1000000: 192,
	}
	for n, b := range bytes {
		want := string([]byte{b})
		forms{num(n * one), map[string]string{"%c": want, "%3c": "  " + want, "%-3c|": want + "  |", "%03c": "  " + want, "%.0c": want, "%.6c": want, "%0c": want}}.check(t)
	}
	forms{num(65999999), map[string]string{"%c": "A"}}.check(t)
	forms{num(-999999), map[string]string{"%c": "\x00"}}.check(t)
	forms{num(-1999999), map[string]string{"%c": "\xff"}}.check(t)
	forms{none(), map[string]string{"%c": "", "%2c": "  ", "%02c": "  "}}.check(t)
	seen := map[string]bool{}
	for n := range 256 {
		s, ok := impl.Sprintf("%c", []impl.Val{num(n * one)})
		if !ok || s != string([]byte{byte(n)}) {
			t.Errorf("c of %d is %q, %v", n, s, ok)
		}
		seen[s] = true
	}
	if len(seen) != 256 {
		t.Error(len(seen))
	}
}

func TestFormsOfPoints(t *testing.T) {
	list := []forms{
		{num(3141592), map[string]string{"%f": "3.141592", "%.0f": "3", "%.1f": "3.1", "%.2f": "3.14", "%.3f": "3.141", "%.4f": "3.1415", "%.5f": "3.14159", "%.6f": "3.141592", "%8.2f": "    3.14", "%08.2f": "00003.14", "%-8.2f|": "3.14    |", "%-08.2f|": "3.14    |", "%4.2f": "3.14", "%03.0f": "003", "%9f": " 3.141592", "%09f": "03.141592"}},
		{num(-3999999), map[string]string{"%f": "-3.999999", "%.0f": "-3", "%.1f": "-3.9", "%.5f": "-3.99999", "%8.2f": "   -3.99", "%08.2f": "-0003.99", "%-8.2f|": "-3.99   |", "%012f": "-0003.999999"}},
		{num(0), map[string]string{"%f": "0.000000", "%.0f": "0", "%.1f": "0.0", "%.6f": "0.000000", "%05.1f": "000.0", "%5.0f": "    0"}},
		{num(1), map[string]string{"%f": "0.000001", "%.5f": "0.00000", "%.0f": "0"}},
		{num(-1), map[string]string{"%f": "-0.000001", "%.5f": "-0.00000", "%.0f": "-0", "%05.0f": "-0000", "%05.1f": "-00.0", "%4.0f": "  -0"}},
		{num(maxNum), map[string]string{"%f": "1000000.000000", "%.0f": "1000000"}},
		{num(-maxNum), map[string]string{"%f": "-1000000.000000", "%.1f": "-1000000.0", "%012.1f": "-001000000.0"}},
		{str(" 2.50x"), map[string]string{"%f": "2.500000", "%.1f": "2.5", "%.0f": "2"}},
		{str("x"), map[string]string{"%f": "0.000000", "%.2f": "0.00"}},
		{look("-.5", -500000), map[string]string{"%f": "-0.500000", "%.0f": "-0", "%.1f": "-0.5"}},
	}
	for _, f := range list {
		f.check(t)
	}
}

func TestValuesThatAreLacking(t *testing.T) {
	wants := map[string]string{
		"%d": "0", "%i": "0", "%s": "", "%c": "", "%f": "0.000000", "%x": "0", "%o": "0", "%3d": "  0", "%03d": "000", "%-3i|": "0  |", "%3s": "   ", "%03s": "   ", "%3c": "   ", "%.0f": "0", "%05.1f": "000.0", "%.3s": "", "%02x": "00", "%2o": " 0", "%%": "%",
	}
	for form, want := range wants {
		for _, list := range [][]impl.Val{nil, {}, {none()}, make([]impl.Val, 9), make([]impl.Val, 0, 9)} {
			if got, ok := impl.Sprintf(form, list); !ok || got != want {
				t.Errorf("Sprintf(%q, %d) = %q, %v, not %q", form, len(list), got, ok, want)
			}
		}
		if got, ok := impl.Sprintf("%s"+form+"%s", []impl.Val{str("a")}); !ok || got != "a"+want {
			t.Errorf("%%s ahead of %q: %q, %v", form, got, ok)
		}
	}
	// What lies behind a list is no value of it.
	room := []impl.Val{str("a"), str("b"), str("c")}
	if got, ok := impl.Sprintf("%s%s%d", room[:1]); !ok || got != "a0" {
		t.Errorf("%q, %v", got, ok)
	}
}

// Flags stand in any order and as often as they like; a width of noughts is none.
func TestFlags(t *testing.T) {
	for _, flags := range allTexts("-0", 5) {
		left, nought := strings.Contains(flags, "-"), strings.Contains(flags, "0")
		for _, c := range []struct{ kind, told string }{{"d", "-7"}, {"i", "-7"}, {"f", "-7.500000"}, {".0f", "-7"}, {".2f", "-7.50"}, {"x", "fffffffffffffff9"}, {"o", "1777777777777777777771"}, {".3d", "-7"}, {"s", "-7.5"}, {".2s", "-7"}, {"c", "\xf9"}} {
			for _, width := range []int{0, 1, 2, 5, 10, 24, 50, 99} {
				digits := ""
				if width > 0 {
					digits = strconv.Itoa(width)
				}
				texts := c.kind == "c" || strings.HasSuffix(c.kind, "s")
				want := wantedFill(c.told, width, left, nought && !texts)
				forms{num(-7500000), map[string]string{"<%" + flags + digits + c.kind + ">": "<" + want + ">"}}.check(t)
			}
		}
	}
	many := strings.Repeat("0", 5000)
	forms{num(7 * one), map[string]string{"%0d": "7", "%00d": "7", "%000d": "7", "%-0d": "7", "%0-d": "7", "%-d": "7", "%--d": "7", "%" + many + "d": "7", "%" + many + "3d": "007", "%" + many + "-3d|": "7  |", "%" + strings.Repeat("-", 5000) + "3d|": "7  |", "%00099d": strings.Repeat("0", 98) + "7", "%-099d|": "7" + strings.Repeat(" ", 98) + "|", "%0.3f": "7.000", "%00.0f": "7", "%010d": "0000000007", "%10d": "         7"}}.check(t)
	for _, form := range []string{"%0100d", "%00100d", "%-0100d", "%" + many, "%" + many + "-", "%" + many + "100d", "%5-d", "%5-5d", "%1-0d", "%.-3f", "%.3-f", "%-.-f"} {
		checkNoForm(t, form)
	}
}

func TestWidthsAndPrecisions(t *testing.T) {
	for width := range 130 {
		for _, kind := range "discfxo" {
			form := "%" + strconv.Itoa(width) + string(kind)
			if width > 99 {
				checkNoForm(t, form)
				checkNoForm(t, "%-"+form[1:])
				checkNoForm(t, "%0"+form[1:])
				continue
			}
			for _, v := range []impl.Val{num(-12500000), str("ab"), none()} {
				got, ok := impl.Sprintf(form, []impl.Val{v})
				if bare, _ := impl.Sprintf("%"+string(kind), []impl.Val{v}); !ok || got != wantedFill(bare, width, false, false) {
					t.Errorf("%q of %v: %q, %v", form, v, got, ok)
				}
				checkForm(t, form, []impl.Val{v})
			}
		}
	}
	for _, kind := range "discfxo" {
		for digits := range 7 {
			checkForm(t, "%."+strconv.Itoa(digits)+string(kind), []impl.Val{num(-12345678)})
			checkForm(t, "%020."+strconv.Itoa(digits)+string(kind), []impl.Val{str("12.345678 and more")})
		}
		for _, precision := range []string{".", "..", ".7", ".8", ".9", ".10", ".00", ".06", ".60", ".-1", ".+1", ". 1", ".1.", ".1.1", ".a", ".*", ".\x00", "./", ".:"} {
			checkNoForm(t, "%"+precision+string(kind))
			checkNoForm(t, "%5"+precision+string(kind))
		}
	}
}

func TestFormsThatAreNone(t *testing.T) {
	bad := []string{
		"%", "a%", "%%%", "%d%", "% ", "% d", "%+d", "%#x", "%'d", "%*d", "%.*d", "%1$d", "%ld", "%hd", "%a", "%b", "%e", "%g", "%q", "%u", "%v", "%D", "%X", "%S", "%C", "%F", "%O", "%I", "%n", "%p", "%E", "%\n", "%\x00", "%\xff", "%\u0661d", "%\uff11d",
		"%5", "%5%", "%-%", "%0%", "%.3%", "%05", "%-", "%0", "%-0", "%.3", "%5.", "%5.3", "%-05.3", "%100d", "%999d", "%1000s", "%5 d", "%5 5d", "%5.5.5d", "%.", "%.d", "%.f", "%.7f", "%.10s", "%.66f", "%- d", "%-+d", "%d%5", "%s %", "%%d%", "%d%%%", "%5%d", "%1", "%99", "%99.", "%99999999999999999999d", "%18446744073709551617d", "%4294967297d", "%.99999999999999999999f", "%.4294967298f",
	}
	for _, form := range bad {
		checkNoForm(t, form)
		checkNoForm(t, "%d "+form)
		checkNoForm(t, "%%"+form)
		checkNoForm(t, "%s%-5s%%"+form)
		checkNoForm(t, strings.Repeat("a", impl.MaxText+1)+form)
	}
}

func TestPlaces(t *testing.T) {
	places := map[string]int{
		"": 0, "abc": 0, "%%": 0, "%%%%": 0, "%d": 1, "%%d": 0, "%%%d": 1, "%d%%": 1, "%d%i%s%c%f%x%o": 7, "%-05.3d": 1, "%5d %% %.2f": 2, "%s%s": 2, "%00-0-099.6o": 1, "a%sb%sc": 2, "\xff%s\x00": 1,
		strings.Repeat("%s", 5000): 5000, strings.Repeat("%99d", 5000): 5000, strings.Repeat("%%", 5000): 0, strings.Repeat("a", 5000) + "%d": 1,
	}
	for form, want := range places {
		if got := impl.Places(form); got != want {
			t.Errorf("Places(%.80q) = %d, not %d", form, got, want)
		}
	}
}

func TestFormsOfMaxText(t *testing.T) {
	full := strings.Repeat("a", impl.MaxText)
	cases := []struct {
		form string
		list []impl.Val
		want string
	}{
		{full, nil, full}, {"%s", []impl.Val{str(full)}, full}, {"a%s", []impl.Val{str(full[1:])}, full}, {"%sa", []impl.Val{str(full[1:])}, full}, {"%%%s", []impl.Val{str(full[1:])}, "%" + full[1:]}, {"%s%%", []impl.Val{str(full[1:])}, full[1:] + "%"},
		{full[1:] + "%%", nil, full[1:] + "%"}, {full[1:] + "%d", nil, full[1:] + "0"}, {full[99:] + "%-99s", nil, full[99:] + strings.Repeat(" ", 99)}, {full[99:] + "%099d", nil, full[99:] + strings.Repeat("0", 99)}, {full[1:] + "%c", []impl.Val{num(0)}, full[1:] + "\x00"},
		{full + "%s", nil, full}, {full + "%s%c%.0s", []impl.Val{str(""), none(), str(full + "a")}, full}, {strings.Repeat("%%", impl.MaxText), nil, strings.Repeat("%", impl.MaxText)}, {strings.Repeat("%80d", 50), nil, strings.Repeat(strings.Repeat(" ", 79)+"0", 50)},
		{strings.Repeat("%.0s", 5000), nil, ""}, {strings.Repeat("%s", 5000) + "b", []impl.Val{str("a")}, "ab"}, {"%.1s", []impl.Val{str(full + full)}, "a"}, {"%d", []impl.Val{str(full + full)}, "0"}, {"%c", []impl.Val{str(full + full)}, "a"},
	}
	for _, c := range cases {
		if got, ok := impl.Sprintf(c.form, c.list); !ok || got != c.want {
			t.Errorf("Sprintf(%.40q, %.40v) = %.40q, %v", c.form, c.list, got, ok)
		}
		if len(c.want) < impl.MaxText {
			continue
		}
		for _, form := range []string{c.form + "x", "x" + c.form, c.form + "%%", "%%" + c.form, c.form + "%1s", c.form + "%d", c.form + "%d" + full + "%s"} {
			if got, ok := impl.Sprintf(form, c.list); ok || got != "" {
				t.Errorf("Sprintf(%.40q, %.40v) = %.40q, %v", form, c.list, got, ok)
			}
			if impl.Places(form) < impl.Places(c.form) {
				t.Errorf("Places(%.40q) = %d", form, impl.Places(form))
			}
		}
	}
	for _, form := range []string{strings.Repeat("%99d", 41), strings.Repeat("%-99s", 41), strings.Repeat("%%", impl.MaxText+1), full + "%c"} {
		if got, ok := impl.Sprintf(form, []impl.Val{str("a")}); ok || got != "" {
			t.Errorf("Sprintf(%.40q) = %.40q, %v", form, got, ok)
		}
	}
}

// Every text of a few signs is held against the expression for forms.
func TestAllShortForms(t *testing.T) {
	lists := [][]impl.Val{nil, {num(-7654321), str("ab")}, {look("12", 12*one)}}
	for i, form := range append(allTexts("%-05.7dsf ", 5), allTexts("%09.d", 7)...) {
		checkForm(t, form, lists[i%len(lists)])
	}
	for b := range 256 {
		sign := string([]byte{byte(b)})
		for _, head := range []string{"%", "%-", "%0", "%5", "%00-12", "%.3", "%12.0", "%.", "%12.3d%"} {
			checkForm(t, head+sign, lists[1])
			checkForm(t, head+sign+"d", lists[1])
		}
	}
}

func someForm(from *rand.Rand, parts int) string {
	form := ""
	for range parts {
		switch from.Intn(8) {
		case 0:
			form += "%%"
		case 1:
			form += []string{"a", " ", "-", "0", "5", ".", "\n", "\xff", "d", "s"}[from.Intn(10)]
		default:
			form += somePlace(from)
		}
	}
	return form
}

func somePlace(from *rand.Rand) string {
	place := "%"
	for from.Intn(2) == 0 {
		place += string("-0"[from.Intn(2)])
	}
	switch from.Intn(3) {
	case 0:
		place += strconv.Itoa(1 + from.Intn(9))
	case 1:
		place += strconv.Itoa(from.Intn(100))
	}
	if from.Intn(2) == 0 {
		place += "." + strconv.Itoa(from.Intn(7))
	}
	return place + string("discfxo"[from.Intn(7)])
}

func TestSomeForms(t *testing.T) {
	from := rand.New(rand.NewSource(81))
	values := append(goodValues(), badValues()...)
	for range 30000 {
		form := someForm(from, from.Intn(9))
		list := []impl.Val{}
		for range from.Intn(9) {
			list = append(list, values[from.Intn(len(values))])
		}
		checkForm(t, form, list)
		// One sign more, less or other makes other forms, and texts that are none.
		if at := from.Intn(len(form) + 1); at < len(form) {
			checkForm(t, form[:at]+form[at+1:], list)
			checkForm(t, form[:at]+string("%-.059ds\x00"[from.Intn(9)])+form[at+1:], list)
			checkForm(t, form[:at], list)
		}
	}
}

// A place answers at every value, also at one that ValOk does not take.
func TestFormsOfAllValues(t *testing.T) {
	for _, v := range append(goodValues(), badValues()...) {
		for _, kind := range "discfxo" {
			for _, head := range []string{"%", "%30", "%030", "%-30", "%.0", "%.3", "%030.6"} {
				checkForm(t, head+string(kind), []impl.Val{v})
			}
		}
	}
	odd := []struct {
		v           impl.Val
		form, wants string
	}{
		{num(maxNum + 1), "%d|%s|%f", "1000000||"}, {num(maxNum + one), "%d", "1000001"}, {num(math.MaxInt), "%d|%x", "9223372036854|8637bd05af6"}, {num(math.MinInt), "%d|%x", "-9223372036854|fffff79c842fa50a"}, {num(math.MinInt), "%5s|%3f", "     |   "}, {num(math.MaxInt), "%c", "\xf6"},
		{impl.Val{S: "ab", N: one}, "%s|%c|%d", "ab|a|0"}, {impl.Val{Kind: 9, S: "ab", N: one}, "%s|%c|%d|%f", "ab|a|0|0.000000"}, {impl.Val{Kind: impl.VNum, S: "ab", N: one}, "%s|%c|%d", "1|\x01|1"}, {impl.Val{Kind: impl.VStr, S: "5", N: one}, "%s|%c|%d", "5|5|5"}, {look("x", 65*one), "%s|%c|%d", "x|x|65"},
	}
	for _, c := range odd {
		if got, ok := impl.Sprintf(c.form, []impl.Val{c.v, c.v, c.v, c.v}); !ok || got != c.wants {
			t.Errorf("Sprintf(%q, %#v) = %q, %v", c.form, c.v, got, ok)
		}
	}
}

func TestFill(t *testing.T) {
	cases := []struct {
		s            string
		width        int
		left, nought bool
		want         string
	}{
		{"ab", 5, false, false, "   ab"}, {"ab", 5, true, false, "ab   "}, {"ab", 5, false, true, "000ab"}, {"ab", 5, true, true, "ab   "}, {"-5", 5, false, true, "-0005"}, {"-5", 5, false, false, "   -5"}, {"-5", 5, true, true, "-5   "}, {"-", 3, false, true, "-00"}, {"--5", 5, false, true, "-00-5"}, {"5-", 4, false, true, "005-"}, {" -5", 5, false, true, "00 -5"}, {"+5", 4, false, true, "00+5"},
		{"", 0, false, false, ""}, {"", 1, false, false, " "}, {"", 3, true, false, "   "}, {"", 3, false, true, "000"}, {"ab", 0, false, true, "ab"}, {"ab", 1, false, true, "ab"}, {"ab", 2, false, true, "ab"}, {"ab", 3, false, true, "0ab"}, {"-1", 2, false, true, "-1"}, {"-1", 3, false, true, "-01"},
		{"ab", -1, false, false, "ab"}, {"ab", -1, true, true, "ab"}, {"", -1, false, true, ""}, {"ab", 100, false, false, "ab"}, {"ab", 100, true, false, "ab"}, {"ab", 100, false, true, "ab"}, {"", 100, false, true, ""}, {"ab", math.MaxInt, false, true, "ab"}, {"ab", math.MinInt, true, false, "ab"}, {"ab", 1 << 32, false, false, "ab"}, {"ab", 1<<32 + 5, false, false, "ab"},
		{"a", 99, false, false, strings.Repeat(" ", 98) + "a"}, {"a", 99, true, false, "a" + strings.Repeat(" ", 98)}, {"-a", 99, false, true, "-" + strings.Repeat("0", 97) + "a"}, {"\u00e4", 3, false, false, " \u00e4"}, {"\xff", 3, true, false, "\xff  "}, {"\x00", 2, false, true, "0\x00"},
	}
	for _, c := range cases {
		if got := impl.Fill(c.s, c.width, c.left, c.nought); got != c.want {
			t.Errorf("Fill(%q, %d, %v, %v) = %q, not %q", c.s, c.width, c.left, c.nought, got, c.want)
		}
	}
	long := strings.Repeat("a", 5000)
	for _, s := range []string{"", "a", "-", "-a", "--", "a-", "0", " ", "\u00e4", "-\xff", long[:98], long[:99], long[:100], "-" + long[:97], "-" + long[:98], long} {
		for width := -3; width < 110; width++ {
			for flags := range 4 {
				left, nought := flags&1 > 0, flags&2 > 0
				if got := impl.Fill(s, width, left, nought); got != wantedFill(s, width, left, nought) {
					t.Errorf("Fill(%.20q, %d, %v, %v) = %q", s, width, left, nought, got)
				}
			}
		}
	}
}

func TestBase(t *testing.T) {
	cases := []struct {
		n, b int
		want string
	}{
		{0, 8, "0"}, {0, 16, "0"}, {1, 8, "1"}, {1, 16, "1"}, {7, 8, "7"}, {8, 8, "10"}, {9, 16, "9"}, {10, 16, "a"}, {15, 16, "f"}, {16, 16, "10"}, {255, 16, "ff"}, {255, 8, "377"}, {0xabcdef, 16, "abcdef"}, {64, 8, "100"}, {4096, 16, "1000"},
		{-1, 8, "1777777777777777777777"}, {-1, 16, "ffffffffffffffff"}, {-2, 16, "fffffffffffffffe"}, {-8, 8, "1777777777777777777770"}, {-16, 16, "fffffffffffffff0"}, {math.MinInt, 8, "1000000000000000000000"}, {math.MinInt, 16, "8000000000000000"}, {math.MaxInt, 8, "777777777777777777777"}, {math.MaxInt, 16, "7fffffffffffffff"},
	}
	for _, c := range cases {
		if got := impl.Base(c.n, c.b); got != c.want {
			t.Errorf("Base(%d, %d) = %q, not %q", c.n, c.b, got, c.want)
		}
	}
	for _, b := range []int{-16, -8, -1, 0, 1, 2, 3, 4, 7, 9, 10, 12, 15, 17, 32, 36, 37, 64, 256 + 8, 1<<32 + 8, 1<<32 + 16, math.MaxInt, math.MinInt} {
		for _, n := range []int{0, 1, 5, 255, -1, math.MinInt, math.MaxInt} {
			if got := impl.Base(n, b); got != "" {
				t.Errorf("Base(%d, %d) = %q", n, b, got)
			}
		}
	}
}

// The digits of a number make it again, in bases 8 and 16.
func TestBaseMakesTheNumberAgain(t *testing.T) {
	from := rand.New(rand.NewSource(82))
	numbers := []int{0, 1, -1, math.MaxInt, math.MinInt}
	for shift := range 63 {
		numbers = append(numbers, 1<<shift, 1<<shift-1, -1<<shift, -1<<shift-1, from.Int()>>shift, -from.Int()>>shift)
	}
	for _, n := range numbers {
		for _, b := range []int{8, 16} {
			s := impl.Base(n, b)
			got := uint64(0)
			for _, sign := range s {
				digit := strings.IndexRune("0123456789abcdef", sign)
				if digit < 0 || digit >= b {
					t.Fatalf("Base(%d, %d) = %q", n, b, s)
				}
				got = got*uint64(b) + uint64(digit)
			}
			if got != uint64(n) || s == "" || s[0] == '0' && s != "0" {
				t.Errorf("Base(%d, %d) = %q", n, b, s)
			}
		}
	}
}

func TestFixed(t *testing.T) {
	cases := []struct {
		a, digits int
		want      string
	}{
		{0, 0, "0"}, {0, 1, "0.0"}, {0, 6, "0.000000"}, {one, 0, "1"}, {one, 2, "1.00"}, {1500000, 0, "1"}, {1500000, 1, "1.5"}, {1999999, 0, "1"}, {1999999, 1, "1.9"}, {1999999, 5, "1.99999"}, {1999999, 6, "1.999999"}, {1000001, 5, "1.00000"}, {1000001, 6, "1.000001"}, {1, 6, "0.000001"}, {1, 5, "0.00000"}, {10, 5, "0.00001"}, {12345678, 3, "12.345"}, {100000, 1, "0.1"}, {99999, 1, "0.0"},
		{-one, 0, "-1"}, {-one, 1, "-1.0"}, {-1999999, 0, "-1"}, {-1999999, 2, "-1.99"}, {-1, 0, "-0"}, {-1, 1, "-0.0"}, {-1, 5, "-0.00000"}, {-1, 6, "-0.000001"}, {-500000, 0, "-0"}, {-500000, 1, "-0.5"}, {-999999, 0, "-0"}, {maxNum, 0, "1000000"}, {maxNum, 6, "1000000.000000"}, {-maxNum, 0, "-1000000"}, {-maxNum, 6, "-1000000.000000"}, {maxNum - 1, 3, "999999.999"},
		{0, -1, ""}, {0, 7, ""}, {one, -1, ""}, {-one, -1, ""}, {-one, 7, ""}, {one, 100, ""}, {one, math.MaxInt, ""}, {one, math.MinInt, ""}, {one, 1 << 32, ""}, {maxNum + 1, 0, ""}, {maxNum + 1, 6, ""}, {-maxNum - 1, 0, ""}, {-maxNum - 1, 6, ""}, {math.MaxInt, 3, ""}, {math.MinInt, 3, ""}, {math.MinInt, 0, ""}, {math.MinInt, -1, ""},
	}
	for _, c := range cases {
		if got := impl.Fixed(c.a, c.digits); got != c.want {
			t.Errorf("Fixed(%d, %d) = %q, not %q", c.a, c.digits, got, c.want)
		}
	}
}

// What is told with so many digits is the number, cut off towards 0 behind these.
func TestFixedMakesTheNumberAgain(t *testing.T) {
	from := rand.New(rand.NewSource(83))
	numbers := append(someNumbers(), noNumbers()...)
	for range 3000 {
		numbers = append(numbers, from.Intn(2*maxNum+1)-maxNum, from.Intn(2*one)-one)
	}
	for _, a := range numbers {
		for digits := -1; digits < 8; digits++ {
			s := impl.Fixed(a, digits)
			if s != wantedFixed(a, digits) {
				t.Fatalf("Fixed(%d, %d) = %q", a, digits, s)
			}
			if s == "" {
				continue
			}
			step := int(math.Pow10(6 - digits))
			if n, end := impl.ReadNum(s); n != a-a%step || end != len(s) || strings.HasPrefix(s, "-") != (a < 0) {
				t.Fatalf("Fixed(%d, %d) = %q", a, digits, s)
			}
		}
	}
}

// Promise 8: a form has as many places as it takes values. With just so many, one
// more changes nothing, and each one has its place.
func TestFormsTakeAsManyValuesAsPlaces(t *testing.T) {
	from := rand.New(rand.NewSource(84))
	for range 3000 {
		form := ""
		for range from.Intn(12) {
			form += []string{"%s", "%d", "%%", "-", "%9i", "%x", "%-7s", "%o", "%.2f", "%09.3f", "5%%s", "%c", "%00s"}[from.Intn(13)]
		}
		many := impl.Places(form)
		list := []impl.Val{}
		for range many {
			list = append(list, num(7*one))
		}
		all, ok := impl.Sprintf(form, list)
		more, moreOk := impl.Sprintf(form, append(slices.Clone(list), str("more"), num(-one)))
		if many < 0 || !ok || !moreOk || all != more {
			t.Fatalf("%q takes more than %d values: %q, %q", form, many, all, more)
		}
		for i := range list {
			changed := slices.Clone(list)
			changed[i] = str("3")
			if got, _ := impl.Sprintf(form, changed); got == all {
				t.Fatalf("%q takes no value %d of %d", form, i, many)
			}
			short, _ := impl.Sprintf(form, list[:i])
			padded, _ := impl.Sprintf(form, append(slices.Clone(list[:i]), make([]impl.Val, many-i)...))
			if short == all || short != padded {
				t.Fatalf("%q with %d of %d values: %q", form, i, many, short)
			}
		}
	}
}

// Promise 8: what is filled is as wide as wanted, and holds what it was made of.
func TestWhatIsFilledIsAsWideAsWanted(t *testing.T) {
	from := rand.New(rand.NewSource(85))
	for range 20000 {
		s := strings.Repeat("-", from.Intn(2)) + strings.Repeat(string("a0- 5"[from.Intn(5)]), from.Intn(120))
		width, left, nought := from.Intn(100), from.Intn(2) == 0, from.Intn(2) == 0
		got := impl.Fill(s, width, left, nought)
		if len(got) != max(width, len(s)) || left && !strings.HasPrefix(got, s) || !left && !strings.HasSuffix(got, strings.TrimPrefix(s, "-")) {
			t.Fatalf("Fill(%q, %d, %v, %v) = %q", s, width, left, nought, got)
		}
		flags := map[bool]string{true: "-"}[left] + map[bool]string{true: "0"}[nought]
		n := from.Intn(2*maxNum) - maxNum
		for _, kind := range []string{"d", "s", ".3f", "f", "x", "o", "c"} {
			bare, _ := impl.Sprintf("%"+kind, []impl.Val{num(n)})
			told, ok := impl.Sprintf("%"+flags+strconv.Itoa(width)+kind, []impl.Val{num(n)})
			if !ok || told != impl.Fill(bare, width, left, nought && kind != "s" && kind != "c") || len(told) != max(width, len(bare)) {
				t.Fatalf("%s of %d with %q, %d: %q", kind, n, flags, width, told)
			}
		}
	}
}

// Promise 17: no argument is written into, and nothing is kept.
func TestFormsWriteIntoNoList(t *testing.T) {
	room := append(goodValues(), badValues()...)
	was := slices.Clone(room)
	form := strings.Repeat("%-012.3d%s%c%.2f%x%5s%o%%", 9)
	for many := range room {
		list := room[:many]
		first, firstOk := impl.Sprintf(form, list)
		second, secondOk := impl.Sprintf(form, list)
		if first != second || firstOk != secondOk || !slices.Equal(room, was) {
			t.Fatalf("%d values: %q, %q", many, first, second)
		}
	}
	if impl.Places(form) != 63 {
		t.Error(impl.Places(form))
	}
}

// Forms and values of many bytes are told, or refused, without going beyond what
// is told.
func TestFormsOfEverySize(t *testing.T) {
	begin := time.Now()
	big := bytesLong(1 << 24)
	long := []string{big, "%s" + big, strings.Repeat("%", 1<<24), strings.Repeat("%d", 1<<22), strings.Repeat("%99s", 1<<20), "%" + strings.Repeat("0", 1<<24) + "d" + big, "%" + strings.Repeat("9", 1<<24) + "d", "%." + strings.Repeat("1", 1<<24) + "f"}
	for _, form := range long {
		if got, ok := impl.Sprintf(form, []impl.Val{str(big)}); ok || got != "" {
			t.Errorf("Sprintf(%.20q) = %.20q, %v", form, got, ok)
		}
		impl.Places(form)
	}
	values := slices.Repeat([]impl.Val{str(big)}, 3000)
	if got, ok := impl.Sprintf(strings.Repeat("%.0s%c", 3000), values[:2000]); !ok || len(got) != 1000 {
		t.Errorf("%.20q, %v", got, ok)
	}
	if got, ok := impl.Sprintf(strings.Repeat("%.0s", 1<<20), values); !ok || got != "" || impl.Fill(big, 99, false, true) != big {
		t.Errorf("%.20q, %v", got, ok)
	}
	if time.Since(begin) > 30*time.Second {
		t.Error(time.Since(begin))
	}
}
