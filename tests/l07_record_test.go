package tests

import (
	"math"
	"math/rand"
	"regexp"
	"slices"
	"strings"
	"testing"
	"time"

	"loop.example/g00560/impl"
)

func rec(line string, fields ...string) impl.Rec { return impl.Rec{Line: line, Fields: fields} }

// recBy tells the record of a line, which is one.
func recBy(t *testing.T, s string, fs string) impl.Rec {
	t.Helper()
	r, ok := impl.RecOf(s, fs)
	if !ok {
		t.Fatalf("RecOf(%.60q, %.60q) is none", s, fs)
	}
	return r
}

func sameRec(a impl.Rec, b impl.Rec) bool {
	return a.Line == b.Line && slices.Equal(a.Fields, b.Fields)
}

func bytesLong(size int) string { return strings.Repeat("a", size) }

// separators tells what parts lines: blanks, nothing, bytes, expressions, some
// that mean nothing at all, and texts that are no expressions.
func separators() []string {
	return []string{
		" ", "", ",", "a", "\t", "\n", ".", "|", "(", "[", "\\", "^", "$", "*", "0", "\x00", "\xff",
		"  ", ", ", "ab", "a|ab", "ab|a", "x*", "a*", "a?", "(a|b)+", "[ ,]+", "a*b", "[^a]", "..", ".*", ".+", "^a", "a$", "^,", ",$", "^a*", "b*$", "()", "()()", "|a", "a{2}", "a{2,}", "\\|", "\\.", "\\ ", "[ ]", "(,)", "aa|a", "(ab|a)(b|,)?", "\xff\xff", "\u00e4",
		"((", "a)", "[a", "*a", "a**", "a{", "a{2", "a{2,1}", "[b-a]", "a\\", "++", "))", strings.Repeat("(", 300),
	}
}

func TestRecordConstants(t *testing.T) {
	if impl.MaxFields != 60 || impl.MaxLine != 2000 {
		t.Error(impl.MaxFields, impl.MaxLine)
	}
}

func TestRecOk(t *testing.T) {
	long, most := bytesLong(2000), make([]string, 60)
	good := []impl.Rec{
		{}, rec(""), rec("", ""), rec("a"), rec("", "a"), rec("a b", "a", "b"), rec("\n\x00\xff", "\n", "\xff"), rec(long), rec(long, long), rec("", long), rec("", most...), rec(long, slices.Repeat([]string{long}, 60)...), {Fields: []string{}},
		// Line and Fields are not asked whether they are alike.
		rec("a b", "c"), rec("a b"), rec("", "a", "b"),
	}
	for i, r := range good {
		if !impl.RecOk(r) {
			t.Errorf("good %d is a record", i)
		}
	}
	bad := []impl.Rec{
		rec(long + "a"), rec(long+"a", long), rec(bytesLong(100000)), rec("", long+"a"), rec("", "a", long+"a"), rec("", long+"a", "a"), rec(long, slices.Repeat([]string{long + "a"}, 60)...), rec("", append(make([]string, 59), long+"a")...),
		rec("", make([]string, 61)...), rec("a", slices.Repeat([]string{"a"}, 61)...), rec("", make([]string, 100000)...), rec(long+"a", append(most, long+"a")...),
	}
	for i, r := range bad {
		if impl.RecOk(r) {
			t.Errorf("bad %d is no record", i)
		}
	}
}

func TestSplitLine(t *testing.T) {
	cases := []struct {
		s, fs string
		want  []string
	}{
		{"", " ", nil}, {"", "", nil}, {"", ",", nil}, {"", "x*", nil}, {"", "ab", nil}, {"", "((", nil}, {"", "()", nil}, {"", "^$", nil},
		{"a b c", " ", []string{"a", "b", "c"}}, {"  a\t \tb  ", " ", []string{"a", "b"}}, {" ", " ", nil}, {"\t \t", " ", nil}, {"a\nb c", " ", []string{"a\nb", "c"}}, {"a,b", " ", []string{"a,b"}}, {"a\x00\vb", " ", []string{"a\x00\vb"}},
		{"abc", "", []string{"a", "b", "c"}}, {" a ", "", []string{" ", "a", " "}}, {"\n", "", []string{"\n"}}, {"\u00e4", "", []string{"\xc3", "\xa4"}}, {"\xff\x00", "", []string{"\xff", "\x00"}},
		{"a,b,c", ",", []string{"a", "b", "c"}}, {"a,,b", ",", []string{"a", "", "b"}}, {",", ",", []string{"", ""}}, {",a,", ",", []string{"", "a", ""}}, {"abc", ",", []string{"abc"}}, {" a , b ", ",", []string{" a ", " b "}}, {"a b", ",", []string{"a b"}},
		{"a\tb c", "\t", []string{"a", "b c"}}, {"\t\t", "\t", []string{"", "", ""}}, {"a\nb", "\n", []string{"a", "b"}}, {"a\xffb", "\xff", []string{"a", "b"}}, {"\u00e4", "\xc3", []string{"", "\xa4"}},
		// One byte is itself, whatever it means in an expression.
		{"a.b", ".", []string{"a", "b"}}, {"a|b", "|", []string{"a", "b"}}, {"a(b", "(", []string{"a", "b"}}, {"a[b", "[", []string{"a", "b"}}, {"a\\b", "\\", []string{"a", "b"}}, {"^a", "^", []string{"", "a"}}, {"a$", "$", []string{"a", ""}}, {"a*b", "*", []string{"a", "b"}}, {"aXa", "a", []string{"", "X", ""}}, {"a+b", "+", []string{"a", "b"}},
		{"a  b c", "  ", []string{"a", "b c"}}, {"a  b c", "[ ]", []string{"a", "", "b", "c"}}, {" a", "[ ]", []string{"", "a"}}, {" a  b ", "[ ]+", []string{"", "a", "b", ""}}, {"a b", "\\ ", []string{"a", "b"}}, {"a, b,c", ", *", []string{"a", "b", "c"}}, {"a1b22c", "[0-9]+", []string{"a", "b", "c"}}, {"1a1", "[0-9]+", []string{"", "a", ""}}, {"11", "[0-9]+", []string{"", ""}}, {"a::b:c", "::", []string{"a", "b:c"}}, {":::", "::", []string{"", ":"}}, {"::::", "::", []string{"", "", ""}},
		// What is meant by two ways is the longer one, and the first place counts.
		{"xaby", "a|ab", []string{"x", "y"}}, {"xabay", "ab|a", []string{"x", "", "y"}}, {"aaa", "aa", []string{"", "a"}}, {"aaaa", "aa|aaa", []string{"", "a"}}, {"xaay", "a", []string{"x", "", "y"}},
		// What is empty parts nothing, but what is found behind it does.
		{"ab", "x*", []string{"ab"}}, {"axb", "x*", []string{"a", "b"}}, {"axxbx", "x*", []string{"a", "b", ""}}, {"xxa", "x*", []string{"", "a"}}, {"xx", "x*", []string{"", ""}}, {"abc", "()", []string{"abc"}}, {"abc", "|x", []string{"abc"}}, {"axc", "|x", []string{"a", "c"}}, {"abc", "()*", []string{"abc"}}, {"abab", "b?", []string{"a", "a", ""}}, {"abc", "^|$", []string{"abc"}}, {"a", "(|a)", []string{"", ""}}, {"ab", "$^", []string{"ab"}},
		// The beginning and the end are those of the whole line.
		{"aab", "^a", []string{"", "ab"}}, {"baa", "a$", []string{"ba", ""}}, {"aba", "^a|a$", []string{"", "b", ""}}, {"aa", "^a", []string{"", "a"}}, {"a\na", "^a", []string{"", "\na"}}, {"aaab", "^a*", []string{"", "b"}}, {"abc", ".*", []string{"", ""}}, {"a\nb", ".+", []string{"", ""}}, {"abc", "..", []string{"", "c"}}, {"abcd", "..", []string{"", "", ""}},
		{"a\u00e4b", "\u00e4", []string{"a", "b"}}, {"a\xc3\xc3\xa4", "\u00e4", []string{"a\xc3", ""}},
		// What ParseRe takes not parts nothing.
		{"a(b", "((", []string{"a(b"}}, {"a((b", "((", []string{"a((b"}}, {"a)b", "a)", []string{"a)b"}}, {"[a", "[a", []string{"[a"}}, {"a**", "a**", []string{"a**"}}, {"a b", "*a", []string{"a b"}}, {"a{2,1}", "a{2,1}", []string{"a{2,1}"}}, {"a\\", "a\\", []string{"a\\"}}, {" ", "))", []string{" "}},
	}
	for _, c := range cases {
		if got := impl.SplitLine(c.s, c.fs); !slices.Equal(got, c.want) {
			t.Errorf("SplitLine(%q, %q) = %q", c.s, c.fs, got)
		}
	}
}

// wantedFields tells the fields word by word as the chapter does.
func wantedFields(s string, fs string) []string {
	fields := []string{}
	switch {
	case s == "":
		return fields
	case fs == " ":
		return strings.FieldsFunc(s, func(sign rune) bool { return sign == ' ' || sign == '\t' })
	case fs == "":
		for i := range len(s) {
			fields = append(fields, s[i:i+1])
		}
		return fields
	case len(fs) == 1:
		return strings.Split(s, fs)
	}
	r, ok := impl.ParseRe(fs)
	behind := 0
	for from := 0; ok; {
		at, end := impl.FindRe(r, s, from)
		if at < 0 {
			break
		}
		from = at + 1
		if end > at {
			fields = append(fields, s[behind:at])
			behind, from = end, end
		}
	}
	return append(fields, s[behind:])
}

func checkSplit(t *testing.T, s string, fs string) {
	t.Helper()
	if got, want := impl.SplitLine(s, fs), wantedFields(s, fs); !slices.Equal(got, want) {
		t.Errorf("SplitLine(%.100q, %.100q) = %.100q, not %.100q", s, fs, got, want)
	}
}

func TestSplitAllShortLines(t *testing.T) {
	lines := append(allTexts("ab ,", 5), allTexts("a.|\t\xff", 3)...)
	for _, fs := range separators() {
		for _, s := range lines {
			checkSplit(t, s, fs)
		}
	}
}

func TestSplitByEachByte(t *testing.T) {
	all := allBytes()
	for i := range all {
		fs := all[i : i+1]
		for _, s := range []string{all, fs, fs + fs, "a" + fs + "b", fs + "a", "a" + fs, "a", " " + fs + "\t" + fs + " "} {
			checkSplit(t, s, fs)
		}
		if fs != " " && !slices.Equal(impl.SplitLine(all, fs), []string{all[:i], all[i+1:]}) {
			t.Errorf("all bytes by byte %d: %q", i, impl.SplitLine(all, fs))
		}
	}
}

func TestSplitByMadeExpressions(t *testing.T) {
	from := rand.New(rand.NewSource(71))
	lines := allTexts("abc", 6)
	for range 3000 {
		fs := impl.ReText(someRe(from, 2+from.Intn(12), 8, "abc"))
		for range 8 {
			checkSplit(t, lines[from.Intn(len(lines))], fs)
		}
	}
}

// Another reader of such expressions parts a line in the same places.
func TestSplitByWhatPosixFinds(t *testing.T) {
	from := rand.New(rand.NewSource(72))
	lines := allTexts("abc", 6)[1:]
	parted := 0
	for range 4000 {
		fs := impl.ReText(someRe(from, 2+from.Intn(10), 8, "abc"))
		other, err := regexp.CompilePOSIX(fs)
		if err != nil || len(fs) < 2 {
			continue
		}
		s := lines[from.Intn(len(lines))]
		want, behind := []string{}, 0
		for _, found := range other.FindAllStringIndex(s, -1) {
			if found[0] < found[1] {
				want = append(want, s[behind:found[0]])
				behind = found[1]
			}
		}
		want = append(want, s[behind:])
		if got := impl.SplitLine(s, fs); !slices.Equal(got, want) {
			t.Errorf("SplitLine(%q, %q) = %q, not %q", s, fs, got, want)
		}
		if len(want) > 1 {
			parted++
		}
	}
	if parted < 1000 {
		t.Error(parted)
	}
}

func TestFieldsArePutTogetherAgain(t *testing.T) {
	lines := append(allTexts("a, \t", 5), allBytes(), strings.Repeat(",a", 3000))
	for _, s := range lines {
		for _, fs := range []string{"", ",", "a", "\t", "\xff"} {
			if got := impl.JoinLine(impl.SplitLine(s, fs), fs); got != s {
				t.Errorf("%.100q by %q: %.100q", s, fs, got)
			}
		}
		words := impl.SplitLine(s, " ")
		if again := impl.SplitLine(impl.JoinLine(words, " "), " "); !slices.Equal(again, words) {
			t.Errorf("%.100q: %.100q", s, again)
		}
	}
}

// An expression for texts has limits of its own; one beyond these is none.
func TestSplitByExpressionsAtTheirLimits(t *testing.T) {
	set := func(size int) string { return "[" + strings.Repeat("b", size-2) + "]" }
	row := func(many int) string { return strings.Repeat("b", many) }
	open := func(many int) string { return strings.Repeat("(", many) + "b" + strings.Repeat(")", many) }
	s := "a" + row(101) + "c"
	cases := []struct {
		s, fs string
		want  []string
	}{
		{"abc", set(impl.MaxText), []string{"a", "c"}}, {"abc", set(impl.MaxText + 1), []string{"abc"}}, {"abc", set(100000), []string{"abc"}},
		{s, row(100), []string{"a", "bc"}}, {s, row(101), []string{s}}, {"abc", open(impl.MaxRe), []string{"a", "c"}}, {"abc", open(impl.MaxRe + 1), []string{"abc"}},
		{"abbbbbbbbbc", "b{9}", []string{"a", "c"}}, {"abbbbbbbbbbc", "b{10}", []string{"abbbbbbbbbbc"}},
	}
	for _, c := range cases {
		if got := impl.SplitLine(c.s, c.fs); !slices.Equal(got, c.want) {
			t.Errorf("SplitLine(%q, %.40q of %d bytes) = %q", c.s, c.fs, len(c.fs), got)
		}
	}
}

func TestSplitLineHasNoLimits(t *testing.T) {
	for _, size := range []int{59, 60, 61, 1999, 2000, 2001, impl.MaxText, impl.MaxText + 1, 30000} {
		cases := []struct {
			s, fs string
			many  int
		}{
			{bytesLong(size), "", size}, {strings.Repeat("a ", size), " ", size}, {strings.Repeat(",", size), ",", size + 1}, {strings.Repeat("ab", size), "ab", size + 1}, {strings.Repeat("a1", size), "[0-9]+", size + 1}, {bytesLong(size), ",", 1}, {bytesLong(size), "x*", 1}, {bytesLong(size), "a*", 2}, {bytesLong(size), "((", 1}, {bytesLong(size), "a|b", size + 1},
		}
		for _, c := range cases {
			if got := impl.SplitLine(c.s, c.fs); len(got) != c.many {
				t.Errorf("%d bytes by %q: %d fields", len(c.s), c.fs, len(got))
			}
		}
	}
}

func TestJoinLine(t *testing.T) {
	cases := []struct {
		fields []string
		ofs    string
		want   string
	}{
		{nil, ",", ""}, {[]string{}, ",", ""}, {nil, "", ""}, {[]string{""}, ",", ""}, {[]string{"a"}, ",", "a"}, {[]string{"a", "b"}, ",", "a,b"}, {[]string{"a", "b", "c"}, "", "abc"}, {[]string{"", ""}, ",", ","}, {[]string{"", "", ""}, "--", "----"}, {[]string{"a", "", "b"}, " ", "a  b"}, {[]string{"a,", ",b"}, ",", "a,,,b"}, {[]string{"a\n", "\xff"}, "\x00\xff", "a\n\x00\xff\xff"},
		{slices.Repeat([]string{"a"}, 61), "", bytesLong(61)}, {make([]string, 5001), "a", bytesLong(5000)}, {[]string{bytesLong(2000), bytesLong(2001)}, "a", bytesLong(4002)}, {[]string{"x", "y"}, bytesLong(5000), "x" + bytesLong(5000) + "y"},
	}
	for _, c := range cases {
		if got := impl.JoinLine(c.fields, c.ofs); got != c.want {
			t.Errorf("JoinLine(%.100q, %.100q) = %.100q", c.fields, c.ofs, got)
		}
	}
}

func checkRecOf(t *testing.T, s string, fs string) {
	t.Helper()
	got, ok := impl.RecOf(s, fs)
	want := rec(s, wantedFields(s, fs)...)
	want.Fields = want.Fields[:min(len(want.Fields), impl.MaxFields)]
	if !ok || !impl.RecOk(got) || !sameRec(got, want) {
		t.Errorf("RecOf(%.100q, %.100q) = %.200q, %v", s, fs, got, ok)
	}
}

func TestRecOf(t *testing.T) {
	from := rand.New(rand.NewSource(73))
	lines := allTexts("ab ,", 5)
	for _, fs := range separators() {
		for _, s := range []string{"", " ", "a b c", "a,b", ",", "aab", allBytes()} {
			checkRecOf(t, s, fs)
		}
		for range 100 {
			checkRecOf(t, lines[from.Intn(len(lines))], fs)
		}
	}
	r := recBy(t, " a  b ", " ")
	if !sameRec(r, rec(" a  b ", "a", "b")) {
		t.Errorf("the Line is kept as it is: %q", r)
	}
	if r, ok := impl.RecOf("", ","); !ok || r.Line != "" || len(r.Fields) != 0 {
		t.Errorf("the empty line: %q, %v", r, ok)
	}
}

func TestRecOfTakesTheFirstFields(t *testing.T) {
	for _, many := range []int{1, 58, 59, 60, 61, 62, 120, 500} {
		for _, fs := range []string{" ", ",", "", "ab", "[0-9]+", "a|ab", "1*"} {
			between := fs
			switch fs {
			case "[0-9]+", "1*":
				between = "11"
			case "a|ab":
				between = "ab"
			}
			fields := []string{}
			for i := range many {
				fields = append(fields, string([]byte{'A' + byte(i%26)}))
			}
			s := strings.Join(fields, between)
			r, ok := impl.RecOf(s, fs)
			if want := rec(s, fields[:min(many, 60)]...); !ok || !sameRec(r, want) || !impl.RecOk(r) {
				t.Errorf("%d fields by %q: %d, %v", many, fs, len(r.Fields), ok)
			}
		}
	}
}

func TestRecOfHasALimit(t *testing.T) {
	for _, fs := range separators() {
		checkRecOf(t, bytesLong(1999), fs)
		checkRecOf(t, bytesLong(2000), fs)
		checkRecOf(t, strings.Repeat("a b,", 500), fs)
		for _, size := range []int{2001, 2002, 4000, 20000} {
			for _, unit := range []string{"a", " ", ",", "b"} {
				checkLongRecOf(t, strings.Repeat(unit, size), fs)
			}
		}
		checkLongRecOf(t, strings.Repeat("a b,", 500)+"a", fs)
		checkLongRecOf(t, strings.Repeat("b a,", 5000), fs)
	}
}

// checkLongRecOf holds the record of a line of more than MaxLine bytes against its
// fields: it is told like another one, with false beside it.
func checkLongRecOf(t *testing.T, s string, fs string) {
	t.Helper()
	got, ok := impl.RecOf(s, fs)
	want := rec(s, impl.SplitLine(s, fs)...)
	want.Fields = want.Fields[:min(len(want.Fields), impl.MaxFields)]
	if ok || impl.RecOk(got) || !sameRec(got, want) {
		t.Errorf("RecOf(%d bytes %.40q, %.40q) = %d bytes, %.200q, %v", len(s), s, fs, len(got.Line), got.Fields, ok)
	}
}

func TestRecOfALongLine(t *testing.T) {
	long := bytesLong(2001)
	cases := []struct {
		s, fs string
		want  []string
	}{
		{strings.Repeat("x ", 1000) + "y", " ", slices.Repeat([]string{"x"}, 60)}, {strings.Repeat(" ", 2001), " ", nil}, {"x" + strings.Repeat(" ", 2000), " ", []string{"x"}}, {strings.Repeat(" ", 2000) + "x", " ", []string{"x"}}, {"x " + bytesLong(1999), " ", []string{"x", bytesLong(1999)}},
		{long, ",", []string{long}}, {long, " ", []string{long}}, {long, "", slices.Repeat([]string{"a"}, 60)}, {long, "a", make([]string, 60)}, {long, "((", []string{long}}, {long, "x*", []string{long}}, {long, "a*", []string{"", ""}}, {long, "a?", make([]string, 60)}, {long + ",", ",", []string{long, ""}}, {"," + long, ",", []string{"", long}}, {long + "," + long, ",", []string{long, long}}, {long + "ab" + long, "ab|,", []string{bytesLong(2001), bytesLong(2001)}}, {"b12b3" + long, "[0-9]+", []string{"b", "b", long}},
		{strings.Repeat(",", 58) + long, ",", append(make([]string, 58), long)}, {strings.Repeat(",", 59) + long, ",", append(make([]string, 59), long)}, {strings.Repeat(",", 60) + long, ",", make([]string, 60)},
	}
	for _, c := range cases {
		got, ok := impl.RecOf(c.s, c.fs)
		if ok || impl.RecOk(got) || !sameRec(got, rec(c.s, c.want...)) {
			t.Errorf("RecOf(%d bytes %.40q, %q) = %d bytes, %.200q, %v", len(c.s), c.s, c.fs, len(got.Line), got.Fields, ok)
		}
	}
}

// otherFields tells numbers that are no field's of a record, or of none at all.
func otherFields() []int {
	return []int{-1, -2, -60, -61, math.MinInt, math.MinInt + 1, 61, 62, 255, 256, 257, 1 << 31, 1 << 32, 1<<32 + 1, math.MaxInt - 1, math.MaxInt}
}

func TestField(t *testing.T) {
	r := rec("a b", "x", "", "z")
	for i, want := range []string{"a b", "x", "", "z", "", ""} {
		if got := impl.Field(r, i); got != want {
			t.Errorf("Field(%d) = %q", i, got)
		}
	}
	for _, i := range otherFields() {
		if impl.Field(r, i) != "" || impl.Field(impl.Rec{}, i) != "" {
			t.Error("no field", i)
		}
	}
	if impl.Field(impl.Rec{}, 0) != "" || impl.Field(impl.Rec{}, 1) != "" || impl.Field(rec("a"), 1) != "" {
		t.Error("no fields")
	}
	// What is no record has its fields, too.
	none := rec(bytesLong(3000), append(make([]string, 99), bytesLong(2001))...)
	if impl.Field(none, 0) != bytesLong(3000) || impl.Field(none, 100) != bytesLong(2001) || impl.Field(none, 99) != "" || impl.Field(none, 101) != "" {
		t.Error("fields beyond MaxFields")
	}
}

// wantedSet tells what SetField does, from all fields there may be.
func wantedSet(r impl.Rec, i int, s string, ofs string) (impl.Rec, bool) {
	if i < 1 || i > impl.MaxFields {
		return r, false
	}
	fields := []string{}
	for at := 1; at <= max(i, len(r.Fields)); at++ {
		field := impl.Field(r, at)
		if at == i {
			field = s
		}
		fields = append(fields, field)
	}
	return wantedLine(r, fields, ofs)
}

func wantedCount(r impl.Rec, n int, ofs string) (impl.Rec, bool) {
	if n < 0 || n > impl.MaxFields {
		return r, false
	}
	fields := []string{}
	for at := 1; at <= n; at++ {
		fields = append(fields, impl.Field(r, at))
	}
	return wantedLine(r, fields, ofs)
}

func wantedLine(r impl.Rec, fields []string, ofs string) (impl.Rec, bool) {
	made := rec(strings.Join(fields, ofs), fields...)
	if !impl.RecOk(made) {
		return r, false
	}
	return made, true
}

func checkSetField(t *testing.T, r impl.Rec, i int, s string, ofs string) {
	t.Helper()
	got, ok := impl.SetField(r, i, s, ofs)
	want, wantOk := wantedSet(r, i, s, ofs)
	if ok != wantOk || !sameRec(got, want) {
		t.Errorf("SetField(%.200q, %d, %.60q, %.60q) = %.200q, %v", r, i, s, ofs, got, ok)
	}
	if ok && (impl.Field(got, i) != s || got.Line != impl.JoinLine(got.Fields, ofs) || !impl.RecOk(got)) {
		t.Errorf("SetField(%.200q, %d, %.60q, %.60q): promise 7 is broken", r, i, s, ofs)
	}
}

func checkSetCount(t *testing.T, r impl.Rec, n int, ofs string) {
	t.Helper()
	got, ok := impl.SetCount(r, n, ofs)
	want, wantOk := wantedCount(r, n, ofs)
	if ok != wantOk || !sameRec(got, want) {
		t.Errorf("SetCount(%.200q, %d, %.60q) = %.200q, %v", r, n, ofs, got, ok)
	}
	if ok && (len(got.Fields) != n || got.Line != impl.JoinLine(got.Fields, ofs) || !impl.RecOk(got)) {
		t.Errorf("SetCount(%.200q, %d, %.60q): promise 7 is broken", r, n, ofs)
	}
}

func TestSetField(t *testing.T) {
	r := rec("a b  c", "a", "b", "c")
	cases := []struct {
		i      int
		s, ofs string
		want   impl.Rec
	}{
		{1, "x", " ", rec("x b c", "x", "b", "c")}, {2, "x", "-", rec("a-x-c", "a", "x", "c")}, {3, "", ",", rec("a,b,", "a", "b", "")}, {3, "c", " ", rec("a b c", "a", "b", "c")}, {4, "d", "", rec("abcd", "a", "b", "c", "d")}, {6, "x", ",", rec("a,b,c,,,x", "a", "b", "c", "", "", "x")}, {5, "", "--", rec("a--b--c----", "a", "b", "c", "", "")}, {1, "x y", " ", rec("x y b c", "x y", "b", "c")}, {2, "\n", "\n", rec("a\n\n\nc", "a", "\n", "c")},
	}
	for _, c := range cases {
		if got, ok := impl.SetField(r, c.i, c.s, c.ofs); !ok || !sameRec(got, c.want) {
			t.Errorf("SetField(%d, %q, %q) = %q, %v", c.i, c.s, c.ofs, got, ok)
		}
	}
	for i := 1; i <= 60; i++ {
		got, ok := impl.SetField(impl.Rec{}, i, "x", ",")
		if !ok || len(got.Fields) != i || got.Line != strings.Repeat(",", i-1)+"x" || impl.Field(got, i) != "x" {
			t.Errorf("field %d of nothing: %q, %v", i, got, ok)
		}
	}
	for _, i := range append(otherFields(), 0) {
		for _, r := range []impl.Rec{{}, r, rec("", make([]string, 60)...), rec("", make([]string, 61)...), rec(bytesLong(2001), "a")} {
			if got, ok := impl.SetField(r, i, "x", ","); ok || !sameRec(got, r) {
				t.Errorf("no field %d: %q, %v", i, got, ok)
			}
		}
	}
}

func TestSetFieldOfEachKindOfRecord(t *testing.T) {
	for _, s := range []string{"", "a", "a b c", " , ", bytesLong(2000), strings.Repeat(",", 59), strings.Repeat(",", 2000)} {
		for _, fs := range []string{" ", "", ",", "x*"} {
			r := recBy(t, s, fs)
			for i := -1; i <= 62; i++ {
				for _, ofs := range []string{" ", "", "ab", bytesLong(33), bytesLong(34)} {
					checkSetField(t, r, i, "", ofs)
					checkSetField(t, r, i, "xyz", ofs)
					checkSetCount(t, r, i, ofs)
				}
			}
		}
	}
}

// The Line that is put together may have MaxLine bytes, by its fields or by what
// stands between them.
func TestLinesPutTogetherHaveALimit(t *testing.T) {
	r := recBy(t, "a b c", " ")
	for _, ofs := range []string{"", " ", "ab"} {
		room := 2000 - 2 - 2*len(ofs)
		got, ok := impl.SetField(r, 2, bytesLong(room), ofs)
		if !ok || len(got.Line) != 2000 || !impl.RecOk(got) {
			t.Errorf("by %q: %v, %d bytes", ofs, ok, len(got.Line))
		}
		for _, more := range []int{1, 2, 2000, 100000} {
			if got, ok := impl.SetField(r, 2, bytesLong(room+more), ofs); ok || !sameRec(got, r) {
				t.Errorf("by %q and %d bytes more: %v, %d bytes", ofs, more, ok, len(got.Line))
			}
		}
	}
	for _, c := range []struct{ n, most int }{{2, 1998}, {3, 998}, {5, 499}, {60, 33}} {
		got, ok := impl.SetCount(r, c.n, bytesLong(c.most))
		if !ok || len(got.Line) != min(c.n, 3)+(c.n-1)*c.most || !impl.RecOk(got) {
			t.Errorf("%d fields by %d bytes: %v, %d bytes", c.n, c.most, ok, len(got.Line))
		}
		if got, ok := impl.SetCount(r, c.n, bytesLong(c.most+1)); ok || !sameRec(got, r) {
			t.Errorf("%d fields by %d bytes: %v", c.n, c.most+1, ok)
		}
	}
	alone := rec("", bytesLong(2000))
	if got, ok := impl.SetCount(alone, 1, bytesLong(5000)); !ok || len(got.Line) != 2000 {
		t.Error("nothing stands between one field and none")
	}
	if got, ok := impl.SetCount(alone, 2, "a"); ok || !sameRec(got, alone) {
		t.Error("one byte more stands behind 2000")
	}
	if got, ok := impl.SetCount(alone, 60, ""); !ok || len(got.Line) != 2000 || len(got.Fields) != 60 {
		t.Error("nothing more stands behind 2000")
	}
}

func TestSetCount(t *testing.T) {
	r := rec("a b  c", "a", "b", "c")
	cases := []struct {
		n    int
		ofs  string
		want impl.Rec
	}{
		{0, ",", rec("")}, {1, ",", rec("a", "a")}, {2, ",", rec("a,b", "a", "b")}, {3, " ", rec("a b c", "a", "b", "c")}, {4, ",", rec("a,b,c,", "a", "b", "c", "")}, {6, "--", rec("a--b--c------", "a", "b", "c", "", "", "")}, {4, "", rec("abc", "a", "b", "c", "")},
	}
	for _, c := range cases {
		if got, ok := impl.SetCount(r, c.n, c.ofs); !ok || !sameRec(got, c.want) {
			t.Errorf("SetCount(%d, %q) = %q, %v", c.n, c.ofs, got, ok)
		}
	}
	for n := range 61 {
		if got, ok := impl.SetCount(impl.Rec{}, n, ","); !ok || len(got.Fields) != n || got.Line != strings.Repeat(",", max(0, n-1)) {
			t.Errorf("%d fields of nothing: %q, %v", n, got, ok)
		}
	}
	for _, n := range otherFields() {
		for _, r := range []impl.Rec{{}, r, rec("", make([]string, 60)...), rec("", make([]string, 61)...), rec(bytesLong(2001), "a")} {
			if got, ok := impl.SetCount(r, n, ","); ok || !sameRec(got, r) {
				t.Errorf("no count %d: %q, %v", n, got, ok)
			}
		}
	}
}

func TestSetLine(t *testing.T) {
	r := rec("a b  c", "a", "b", "c")
	cases := []struct {
		s, fs string
		want  impl.Rec
	}{
		{"x;y", ";", rec("x;y", "x", "y")}, {"x  y ", " ", rec("x  y ", "x", "y")}, {"", " ", rec("")}, {"", ",", rec("")}, {"xy", "", rec("xy", "x", "y")}, {"xaby", "a|ab", rec("xaby", "x", "y")}, {"x y", "((", rec("x y", "x y")}, {"a b  c", " ", r},
	}
	for _, c := range cases {
		if got, ok := impl.SetLine(r, c.s, c.fs); !ok || !sameRec(got, c.want) {
			t.Errorf("SetLine(%q, %q) = %q, %v", c.s, c.fs, got, ok)
		}
	}
	for _, old := range []impl.Rec{{}, r, rec("", make([]string, 60)...), rec("", make([]string, 61)...), rec(bytesLong(2001), "a")} {
		for _, fs := range separators() {
			s := strings.Repeat("a b,", 500)
			if got, ok := impl.SetLine(old, s, fs); !ok || !sameRec(got, recBy(t, s, fs)) {
				t.Errorf("2000 bytes by %.40q: %v", fs, ok)
			}
			if got, ok := impl.SetLine(old, s+"a", fs); ok || !sameRec(got, old) {
				t.Errorf("2001 bytes by %.40q: %v", fs, ok)
			}
		}
	}
}

// What is set of what is no record counts by what comes out: it may be one, or is
// none for what was kept.
func TestWhatIsNoRecordIsSet(t *testing.T) {
	long := bytesLong(2001)
	if got, ok := impl.SetField(rec(long, "a", "b"), 1, "c", ","); !ok || !sameRec(got, rec("c,b", "c", "b")) {
		t.Errorf("a Line that was too long: %q, %v", got, ok)
	}
	if got, ok := impl.SetField(rec("", "a", long), 2, "c", ","); !ok || !sameRec(got, rec("a,c", "a", "c")) {
		t.Errorf("a field that was too long: %q, %v", got, ok)
	}
	if got, ok := impl.SetCount(rec(long, "a", long), 1, ","); !ok || !sameRec(got, rec("a", "a")) {
		t.Errorf("a field that is left out: %q, %v", got, ok)
	}
	many := rec("", slices.Repeat([]string{"a"}, 100000)...)
	if got, ok := impl.SetCount(many, 60, ""); !ok || !sameRec(got, rec(bytesLong(60), many.Fields[:60]...)) {
		t.Errorf("fields that are left out: %q, %v", got, ok)
	}
	bad := []impl.Rec{many, rec("", many.Fields[:61]...), rec("a", "a", long), rec(long, long, long)}
	for i, r := range bad {
		for _, at := range []int{1, 60} {
			checkSetField(t, r, at, "x", ",")
			if _, ok := impl.SetField(r, at, "x", ","); ok {
				t.Errorf("bad %d is none with another field %d", i, at)
			}
		}
		for _, n := range []int{0, 1, 2, 3, 60, 61} {
			checkSetCount(t, r, n, ",")
		}
	}
}

// recDraft draws what is asked of a record.
type recDraft struct{ from *rand.Rand }

func (d recDraft) text(most int) string {
	out := make([]byte, d.from.Intn(most+1))
	for i := range out {
		out[i] = "ab ,\t\n\x00\xff"[d.from.Intn(8)]
	}
	return string(out)
}

func (d recDraft) separator() string {
	list := separators()
	return list[d.from.Intn(len(list))]
}

// step tells what one of the three makes of a record, and what it should.
func (d recDraft) step(r impl.Rec) (impl.Rec, impl.Rec, bool, bool) {
	s, ofs, i := d.text(40), d.text(3), d.from.Intn(66)-2
	switch d.from.Intn(8) {
	case 0:
		s = d.text(2300)
	case 1:
		ofs = d.text(60)
	}
	switch d.from.Intn(4) {
	case 0:
		fs := d.separator()
		got, ok := impl.SetLine(r, s, fs)
		if len(s) > impl.MaxLine {
			return got, r, ok, false
		}
		fields := wantedFields(s, fs)
		return got, rec(s, fields[:min(len(fields), 60)]...), ok, true
	case 1:
		got, ok := impl.SetCount(r, i, ofs)
		want, wantOk := wantedCount(r, i, ofs)
		return got, want, ok, wantOk
	}
	got, ok := impl.SetField(r, i, s, ofs)
	want, wantOk := wantedSet(r, i, s, ofs)
	return got, want, ok, wantOk
}

// A record stays one, whatever is set, and what is refused leaves it as it was.
func TestRecordsStayRecords(t *testing.T) {
	draft := recDraft{rand.New(rand.NewSource(74))}
	refused := 0
	for range 300 {
		r := impl.Rec{}
		for range 40 {
			got, want, ok, wantOk := draft.step(r)
			if ok != wantOk || !sameRec(got, want) || !impl.RecOk(got) {
				t.Fatalf("of %.300q: %.300q, %v, not %.300q, %v", r, got, ok, want, wantOk)
			}
			if !ok {
				refused++
			}
			r = got
		}
	}
	if refused < 300 || refused > 9000 {
		t.Error(refused)
	}
}

// recordCalls tells every answer that holds a list, of a record.
func recordCalls(r impl.Rec) []impl.Rec {
	list := []impl.Rec{}
	keep := func(r impl.Rec, ok bool) { list = append(list, r) }
	keep(impl.RecOf("x y", " "))
	keep(impl.RecOf(bytesLong(2000), ""))
	keep(impl.RecOf(bytesLong(2001), ""))
	keep(impl.RecOf(bytesLong(2001), ","))
	for _, i := range []int{-1, 0, 1, 2, 3, 4, 60, 61} {
		keep(impl.SetField(r, i, "x", ","))
		keep(impl.SetCount(r, i, ","))
		keep(impl.SetField(r, i, bytesLong(2001), ","))
		keep(impl.SetCount(r, i, bytesLong(2001)))
	}
	keep(impl.SetLine(r, "x y", " "))
	keep(impl.SetLine(r, bytesLong(2001), " "))
	list = append(list, rec("", impl.SplitLine("x y", " ")...), rec("", impl.SplitLine("x,y", ",")...), rec("", impl.SplitLine("xy", "")...), rec("", impl.SplitLine("xaby", "ab")...), rec("", impl.SplitLine("x", "((")...))
	return list
}

// Promise 17: an answer is the caller's alone. What is written into it, or behind
// it, is in no argument and in no other answer, and no argument is written into.
func TestRecordsAreNewAndNotWrittenInto(t *testing.T) {
	for many := range 4 {
		room := slices.Repeat([]string{"room"}, 70)
		copy(room, []string{"a", "b", "c"}[:many])
		was := slices.Clone(room)
		r := rec("a line", room[:many]...)
		r.Fields = room[:many]
		before, after := recordCalls(r), recordCalls(r)
		if !slices.Equal(room, was) || r.Line != "a line" {
			t.Errorf("%d fields: an argument is written into: %q", many, room)
		}
		for i, answer := range before {
			for j := range answer.Fields {
				answer.Fields[j] = "changed"
			}
			_ = append(answer.Fields, "more", "more")
			if !slices.Equal(room, was) || slices.Contains(after[i].Fields, "changed") {
				t.Errorf("%d fields: answer %d shares its fields", many, i)
			}
		}
		if again := recordCalls(r); !slices.EqualFunc(again, after, sameRec) {
			t.Errorf("%d fields: something is kept", many)
		}
	}
	fields := []string{"a", "b", "room"}
	if impl.JoinLine(fields[:2], ",") != "a,b" || !slices.Equal(fields, []string{"a", "b", "room"}) {
		t.Error(fields)
	}
}

// Fields are cut without spare room: of two copies of a record each may be added
// to, and neither gets what the other one has.
func TestFieldsHaveNoSpareRoom(t *testing.T) {
	for _, fs := range []string{" ", "", ",", "[ ,]", "(("} {
		for _, s := range []string{"a b,c", "a b,c" + bytesLong(2000)} {
			r, _ := impl.RecOf(s, fs)
			first, second := r, r
			first.Fields = append(first.Fields, "x")
			second.Fields = append(second.Fields, "y")
			if first.Fields[len(r.Fields)] != "x" || second.Fields[len(r.Fields)] != "y" {
				t.Errorf("%.40q by %q: %.300q, %.300q", s, fs, first, second)
			}
		}
	}
}

// What is refused is refused ahead of being put together: it may be longer than
// memory is.
func TestRecordsOfEverySize(t *testing.T) {
	big := bytesLong(1 << 26)
	if impl.RecOk(rec(big, big)) || impl.Field(rec(big, big), 1) != big || len(impl.SplitLine(big, ",")) != 1 {
		t.Error("a line of many bytes")
	}
	if got, ok := impl.RecOf(big, ","); ok || !sameRec(got, rec(big, big)) {
		t.Error("the record of many bytes")
	}
	if got, ok := impl.RecOf(big, ""); ok || !sameRec(got, rec(big, slices.Repeat([]string{"a"}, 60)...)) {
		t.Error("the first ones of many fields")
	}
	// This expression would be tried to the end of the line at each place.
	if got, ok := impl.SetLine(rec("a", "a"), big, "(.*x)?"); ok || !sameRec(got, rec("a", "a")) {
		t.Error("no line of many bytes is cut")
	}
	r := rec(big, slices.Repeat([]string{big}, 60)...)
	got, ok := impl.SetField(r, 1, "x", big)
	if ok || len(got.Fields) != 60 || got.Fields[0] != big {
		t.Error("fields of many bytes")
	}
	if got, ok := impl.SetCount(r, 60, big); ok || len(got.Fields) != 60 {
		t.Error("fields of many bytes")
	}
	if got, ok := impl.SetCount(impl.Rec{}, 60, big); ok || len(got.Fields) != 0 {
		t.Error("a separator of many bytes")
	}
	if got, ok := impl.SetCount(r, 0, big); !ok || !sameRec(got, impl.Rec{}) {
		t.Error("no fields")
	}
	crowd := rec("", slices.Repeat([]string{big}, 100000)...)
	if got, ok := impl.SetField(crowd, 1, "x", big); ok || len(got.Fields) != 100000 {
		t.Error("many fields of many bytes")
	}
	if impl.RecOk(crowd) {
		t.Error("many fields of many bytes are no record")
	}
}

// A record takes as long as its line is, not as long as the square of that.
func TestRecordsOfManyLinesTakeNoTime(t *testing.T) {
	begin := time.Now()
	for _, fs := range []string{" ", "", ",", "a*", "[ ,]+", "(a|b)*,", "ab|a", "x?", "(("} {
		for _, unit := range []string{"a", "ab, ", ", "} {
			s := strings.Repeat(unit, 2000)[:2000]
			for range 100 {
				recBy(t, s, fs)
			}
			if len(impl.SplitLine(strings.Repeat(unit, 20000), fs)) == 0 {
				t.Errorf("%q by %q", unit, fs)
			}
		}
	}
	if time.Since(begin) > time.Minute {
		t.Error(time.Since(begin))
	}
}
