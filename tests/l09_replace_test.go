package tests

import (
	"math/rand"
	"regexp"
	"slices"
	"strings"
	"testing"
	"time"

	"loop.example/g00560/impl"
)

// pairs tells places two by two.
func pairs(places ...int) [][2]int {
	list := [][2]int{}
	for i := 0; i+1 < len(places); i += 2 {
		list = append(list, [2]int{places[i], places[i+1]})
	}
	return list
}

// wantedMatches tells the chapter's words one by one, with what find tells from a
// place on.
func wantedMatches(s string, find func(from int) (int, int)) [][2]int {
	list, behind := [][2]int{}, -1
	for from := 0; from <= len(s); {
		at, end := find(from)
		if at < 0 {
			break
		}
		if at == end {
			from = at + 1
		} else {
			from = end
		}
		if at == end && at == behind {
			continue
		}
		list, behind = append(list, [2]int{at, end}), end
	}
	return list
}

// wantedFind tells the first place by wantedMatch alone.
func wantedFind(r impl.Re, s string) func(from int) (int, int) {
	ends := []int{}
	for i := range len(s) + 1 {
		ends = append(ends, wantedMatch(r, s, i))
	}
	return func(from int) (int, int) {
		for at := from; at < len(ends); at++ {
			if ends[at] >= 0 {
				return at, ends[at]
			}
		}
		return -1, -1
	}
}

func checkMatches(t *testing.T, r impl.Re, s string) {
	t.Helper()
	want := wantedMatches(s, wantedFind(r, s))
	if got := impl.Matches(r, s); !slices.Equal(got, want) {
		t.Fatalf("Matches(%q, %q) = %v, not %v", impl.ReText(r), s, got, want)
	}
}

var putForm = regexp.MustCompile(`\\[&\\]|&`)

func wantedPut(repl string, found string) string {
	return putForm.ReplaceAllStringFunc(repl, func(sign string) string {
		if sign == "&" {
			return found
		}
		return sign[1:]
	})
}

func checkPut(t *testing.T, repl string, found string) {
	t.Helper()
	if got, want := impl.Put(repl, found), wantedPut(repl, found); got != want {
		t.Fatalf("Put(%.100q, %.100q) = %.300q, not %.300q", repl, found, got, want)
	}
}

// wantedReplace puts together what stands between the matches and what is put.
func wantedReplace(list [][2]int, repl string, s string, all bool) (string, int, bool) {
	if !all && len(list) > 1 {
		list = list[:1]
	}
	out, behind := "", 0
	for _, pair := range list {
		out += s[behind:pair[0]] + wantedPut(repl, s[pair[0]:pair[1]])
		behind = pair[1]
	}
	out += s[behind:]
	if len(out) > impl.MaxText {
		return s, 0, false
	}
	return out, len(list), true
}

// checkReplace asks for the first one and for all.
func checkReplace(t *testing.T, r impl.Re, repl string, s string) {
	t.Helper()
	list := impl.Matches(r, s)
	for _, all := range []bool{false, true} {
		want, many, ok := wantedReplace(list, repl, s, all)
		got, gotMany, gotOk := impl.Replace(r, repl, s, all)
		if got != want || gotMany != many || gotOk != ok {
			t.Fatalf("Replace(%.60q, %.100q, %.100q, %v) = %.300q, %d, %v, not %.300q, %d, %v", impl.ReText(r), repl, s, all, got, gotMany, gotOk, want, many, ok)
		}
	}
}

func TestMatches(t *testing.T) {
	cases := []struct {
		re, s string
		want  [][2]int
	}{
		{"a", "", pairs()}, {"a", "b", pairs()}, {"a", "a", pairs(0, 1)}, {"a", "banana", pairs(1, 2, 3, 4, 5, 6)}, {"an", "banana", pairs(1, 3, 3, 5)}, {"ana", "banana", pairs(1, 4)}, {"aa", "aaaaa", pairs(0, 2, 2, 4)}, {"abc", "ab", pairs()}, {"[0-9]+", "a1b22c333", pairs(1, 2, 3, 5, 6, 9)}, {".", "ab", pairs(0, 1, 1, 2)}, {".+", "a\nb", pairs(0, 3)},
		// What is meant by two ways is the longer one, and the first place counts.
		{"a|ab", "abaab", pairs(0, 2, 2, 3, 3, 5)}, {"ab|a", "abaab", pairs(0, 2, 2, 3, 3, 5)}, {"aa|aaa", "aaaa", pairs(0, 3)}, {"aa|aaa", "aaaaa", pairs(0, 3, 3, 5)}, {"bcd|ab", "abcd", pairs(0, 2)},
		// What means nothing at all: at each place, at the end, in the empty text.
		{"", "", pairs(0, 0)}, {"", "abc", pairs(0, 0, 1, 1, 2, 2, 3, 3)}, {"()", "ab", pairs(0, 0, 1, 1, 2, 2)}, {"x*", "", pairs(0, 0)}, {"x*", "abc", pairs(0, 0, 1, 1, 2, 2, 3, 3)}, {"(a*)*", "b", pairs(0, 0, 1, 1)}, {"a{0}", "aa", pairs(0, 0, 1, 1, 2, 2)},
		// What is empty just behind the one ahead is none.
		{"a*", "a", pairs(0, 1)}, {"a*", "aaa", pairs(0, 3)}, {"a*", "baac", pairs(0, 0, 1, 3, 4, 4)}, {"b*", "abc", pairs(0, 0, 1, 2, 3, 3)}, {"b*", "abb", pairs(0, 0, 1, 3)}, {"b*", "abbcdb", pairs(0, 0, 1, 3, 4, 4, 5, 6)}, {"a?", "aa", pairs(0, 1, 1, 2)}, {"a?", "aab", pairs(0, 1, 1, 2, 3, 3)}, {"a?", "baab", pairs(0, 0, 1, 2, 2, 3, 4, 4)}, {"(ab)*", "ababa", pairs(0, 4, 5, 5)}, {"(ab)*", "abba", pairs(0, 2, 3, 3, 4, 4)}, {"(ab)*", "abcab", pairs(0, 2, 3, 5)}, {"|ab", "abab", pairs(0, 2, 2, 4)}, {"|a", "bab", pairs(0, 0, 1, 2, 3, 3)}, {"a*|b", "ab", pairs(0, 1, 1, 2)}, {"(a|bb)?", "abba", pairs(0, 1, 1, 3, 3, 4)}, {".*", "", pairs(0, 0)}, {".*", "abc", pairs(0, 3)},
		// What is found just behind is one, where it is not empty; what is empty is one
		// again one place behind that.
		{"a|b*", "abc", pairs(0, 1, 1, 2, 3, 3)}, {"ab|x*", "abc", pairs(0, 2, 3, 3)}, {"ab|x*", "abcd", pairs(0, 2, 3, 3, 4, 4)}, {"a|$", "ba", pairs(1, 2)}, {"a|$", "ab", pairs(0, 1, 2, 2)}, {"(a|$)", "aa", pairs(0, 1, 1, 2)}, {"b|^", "abb", pairs(0, 0, 1, 2, 2, 3)},
		// The beginning and the end are those of the whole text.
		{"^", "", pairs(0, 0)}, {"^", "ab", pairs(0, 0)}, {"^a", "aa", pairs(0, 1)}, {"^a", "ba", pairs()}, {"^a*", "aab", pairs(0, 2)}, {"^a*", "baa", pairs(0, 0)}, {"(^a)*", "aa", pairs(0, 1, 2, 2)}, {"(^|b)a", "aba", pairs(0, 1, 1, 3)}, {"^a", "a\na", pairs(0, 1)},
		{"$", "", pairs(0, 0)}, {"$", "ab", pairs(2, 2)}, {"a$", "aa", pairs(1, 2)}, {"a$", "ab", pairs()}, {"a*$", "baa", pairs(1, 3)}, {"a*$", "aab", pairs(3, 3)}, {"a*$", "aba", pairs(2, 3)}, {"a($|b)", "abaa", pairs(0, 2, 3, 4)}, {"^$", "", pairs(0, 0)}, {"^$", "a", pairs()}, {"^|$", "ab", pairs(0, 0, 2, 2)}, {"^|$", "", pairs(0, 0)}, {"$^", "a", pairs()}, {"a$", "a\nb", pairs()}, {"^.*$", "ab", pairs(0, 2)}, {"b$|a", "abb", pairs(0, 1, 2, 3)},
		{".", "\u00e4", pairs(0, 1, 1, 2)}, {"\xa4", "\u00e4", pairs(1, 2)}, {"[\x80-\xff]*", "a\u00e4b", pairs(0, 0, 1, 3, 4, 4)}, {"\x00|\xff", "\x00a\xff", pairs(0, 1, 2, 3)}, {"\n", "a\nb\n", pairs(1, 2, 3, 4)}, {"\\.", "a.b", pairs(1, 2)}, {"\\\\", "a\\b", pairs(1, 2)}, {"&", "a&b", pairs(1, 2)}, {"[^\x00-\xff]", "ab", pairs()},
	}
	for _, c := range cases {
		r := mustRe(t, c.re)
		if got := impl.Matches(r, c.s); !slices.Equal(got, c.want) {
			t.Errorf("Matches(%q, %q) = %v, not %v", c.re, c.s, got, c.want)
		}
		checkMatches(t, r, c.s)
	}
}

func TestMatchesOfSmallExpressions(t *testing.T) {
	texts := allTexts("ab", 4)
	for _, r := range smallRes() {
		for _, s := range texts {
			checkMatches(t, r, s)
		}
	}
}

func TestMatchesOfGreaterExpressions(t *testing.T) {
	from := rand.New(rand.NewSource(91))
	texts := allTexts("abc", 6)
	for range 3000 {
		r := someRe(from, 2+from.Intn(12), 8, "abc")
		for range 4 {
			checkMatches(t, r, texts[from.Intn(len(texts))])
		}
	}
}

// What is found from place to place is what FindRe tells, in longer texts, too.
func TestMatchesAreWhatFindReTells(t *testing.T) {
	from := rand.New(rand.NewSource(92))
	for range 400 {
		r := someRe(from, 2+from.Intn(12), 8, "abc")
		s := ""
		for range from.Intn(150) {
			s += string("abc"[from.Intn(3)])
		}
		want := wantedMatches(s, func(from int) (int, int) { return impl.FindRe(r, s, from) })
		if got := impl.Matches(r, s); !slices.Equal(got, want) {
			t.Fatalf("Matches(%q, %q) = %v, not %v", impl.ReText(r), s, got, want)
		}
	}
}

// Another reader of such expressions finds the same, and what it finds empty just
// behind the one ahead is none, too.
func TestMatchesAreWhatPosixFinds(t *testing.T) {
	from := rand.New(rand.NewSource(93))
	texts := allTexts("abc", 6)
	read, empty := 0, 0
	for range 4000 {
		r := someRe(from, 2+from.Intn(10), 8, "abc")
		other, err := regexp.CompilePOSIX(impl.ReText(r))
		if err != nil {
			continue
		}
		read++
		s := texts[from.Intn(len(texts))]
		want := [][2]int{}
		for _, found := range other.FindAllStringIndex(s, -1) {
			want = append(want, [2]int{found[0], found[1]})
			if found[0] == found[1] {
				empty++
			}
		}
		if got := impl.Matches(r, s); !slices.Equal(got, want) {
			t.Fatalf("Matches(%q, %q) = %v, not %v", impl.ReText(r), s, got, want)
		}
	}
	if read < 2000 || empty < 1000 {
		t.Error(read, empty)
	}
}

func TestPut(t *testing.T) {
	cases := []struct{ repl, found, want string }{
		{"", "", ""}, {"", "ab", ""}, {"x", "ab", "x"}, {"&", "ab", "ab"}, {"&", "", ""}, {"&&", "ab", "abab"}, {"&&&", "a", "aaa"}, {"[&]", "ab", "[ab]"}, {"x&y&z", "-", "x-y-z"}, {"&x", "ab", "abx"}, {"x&", "ab", "xab"},
		{"\\&", "ab", "&"}, {"\\\\", "ab", "\\"}, {"\\a", "ab", "\\a"}, {"\\n", "ab", "\\n"}, {"\\1", "ab", "\\1"}, {"\\ ", "ab", "\\ "}, {"\\\n", "ab", "\\\n"}, {"\\\xff", "ab", "\\\xff"}, {"\\", "ab", "\\"}, {"a\\", "-", "a\\"}, {"&\\", "ab", "ab\\"},
		// Several of them one behind the other, read from the left.
		{"\\\\\\", "ab", "\\\\"}, {"\\\\\\\\", "ab", "\\\\"}, {"\\\\\\\\\\", "ab", "\\\\\\"}, {"\\\\&", "ab", "\\ab"}, {"\\\\\\&", "ab", "\\&"}, {"\\\\\\\\&", "ab", "\\\\ab"}, {"\\&&", "ab", "&ab"}, {"&\\&", "ab", "ab&"}, {"\\&\\&", "ab", "&&"}, {"\\&\\\\", "ab", "&\\"}, {"\\\\\\a", "ab", "\\\\a"}, {"\\a&", "-", "\\a-"}, {"\\a\\&", "-", "\\a&"}, {"\\&\\", "-", "&\\"}, {"x&y\\&\\\\\\a", "-", "x-y&\\\\a"},
		// What was found is put as it is.
		{"&", "&", "&"}, {"&&", "&", "&&"}, {"&", "\\", "\\"}, {"&&", "\\", "\\\\"}, {"&", "\\&", "\\&"}, {"&", "\\\\", "\\\\"}, {"\\\\&", "&", "\\&"}, {"\\&", "\\", "&"}, {"&\\&", "\\", "\\&"}, {"&", "\x00\xff\n", "\x00\xff\n"}, {"\u00e4&\xff", "\xc3", "\u00e4\xc3\xff"},
	}
	for _, c := range cases {
		if got := impl.Put(c.repl, c.found); got != c.want {
			t.Errorf("Put(%q, %q) = %q, not %q", c.repl, c.found, got, c.want)
		}
		checkPut(t, c.repl, c.found)
	}
}

func TestPutOfShortTexts(t *testing.T) {
	for _, repl := range append(allTexts("&\\a", 7), allBytes()) {
		for _, found := range []string{"", "a", "-", "ab", "&", "\\", "\\&", "&\\"} {
			checkPut(t, repl, found)
		}
	}
	all := allBytes()
	for i := range all {
		b := all[i : i+1]
		for _, repl := range []string{b, "\\" + b, "\\\\" + b, b + "\\", b + "&", "&" + b, "\\&" + b, b + "\\&"} {
			checkPut(t, repl, "found")
			checkPut(t, repl, b)
		}
	}
}

func TestReplace(t *testing.T) {
	cases := []struct {
		re, repl, s string
		all         bool
		want        string
		many        int
	}{
		{"a", "[&]", "banana", true, "b[a]n[a]n[a]", 3}, {"a", "[&]", "banana", false, "b[a]nana", 1}, {"an", "\\&", "banana", true, "b&&a", 2}, {"n", "\\\\", "ana", true, "a\\a", 1}, {"n", "\\", "ana", true, "a\\a", 1}, {"n", "\\x", "ana", true, "a\\xa", 1}, {"a|b", "&&", "ab", true, "aabb", 2}, {"a|b", "&&", "ab", false, "aab", 1}, {"a|ab", "x", "abab", true, "xx", 2}, {"[0-9]+", "<&>", "a1b22", true, "a<1>b<22>", 2}, {"[0-9]+", "<&>", "a1b22", false, "a<1>b22", 1},
		// None.
		{"z", "y", "ab", true, "ab", 0}, {"z", "y", "ab", false, "ab", 0}, {"z", "&", "", true, "", 0}, {"z", "&", "", false, "", 0}, {"^b", "x", "ab", true, "ab", 0}, {"a$", "x", "ab", false, "ab", 0}, {"a", "x", "\\&", true, "\\&", 0},
		// What is put in is empty, or longer than what it stands for.
		{"a", "", "banana", true, "bnn", 3}, {"a", "", "banana", false, "bnana", 1}, {".*", "", "abc", true, "", 1}, {".", "", "abc", true, "", 3}, {".", "", "abc", false, "bc", 1}, {"a", "long", "banana", true, "blongnlongnlong", 3}, {"a", "long", "banana", false, "blongnana", 1}, {"banana", "x", "banana", true, "x", 1}, {"b", "", "a", true, "a", 0},
		// What means nothing at all.
		{"x*", "-", "abc", true, "-a-b-c-", 4}, {"x*", "-", "abc", false, "-abc", 1}, {"b*", "-", "abc", true, "-a-c-", 3}, {"b*", "-", "abc", false, "-abc", 1}, {"", "-", "ab", true, "-a-b-", 3}, {"", "-", "", true, "-", 1}, {"", "-", "", false, "-", 1}, {"", "", "ab", true, "ab", 3}, {"", "&", "ab", true, "ab", 3}, {"a*", "<&>", "baac", true, "<>b<aa>c<>", 3}, {"a*", "<&>", "baac", false, "<>baac", 1}, {"a*", "<&>", "aab", false, "<aa>b", 1}, {"a?", "x", "aab", true, "xxbx", 3}, {"a|$", "x", "ba", true, "bx", 1},
		{"^", "x", "ab", true, "xab", 1}, {"$", "!", "ab", true, "ab!", 1}, {"$", "!", "ab", false, "ab!", 1}, {"^a", "x", "aa", true, "xa", 1}, {"a$", "x", "aa", true, "ax", 1}, {"a$", "x", "aa", false, "ax", 1}, {"^|$", "|", "ab", true, "|ab|", 2}, {"^|$", "|", "ab", false, "|ab", 1}, {"^$", "x", "", true, "x", 1}, {"^.*$", "&&", "ab", true, "abab", 1},
		// What is put in is not gone through again, and what was found is put as it is.
		{"a", "aa", "aa", true, "aaaa", 2}, {"a", "ba", "ab", true, "bab", 1}, {"b", "&a", "ab", true, "aba", 1}, {"[&\\]", "<&>", "a&\\b", true, "a<&><\\>b", 2}, {"&", "&&", "&", true, "&&", 1}, {"\\\\", "\\\\&", "\\", true, "\\\\", 1}, {"\xa4", "\xb6", "\u00e4", true, "\u00f6", 1}, {"\n", "; ", "a\nb\n", true, "a; b; ", 2}, {"\x00", "\xff", "\x00\x00", true, "\xff\xff", 2},
	}
	for _, c := range cases {
		got, many, ok := impl.Replace(mustRe(t, c.re), c.repl, c.s, c.all)
		if !ok || got != c.want || many != c.many {
			t.Errorf("Replace(%q, %q, %q, %v) = %q, %d, %v, not %q, %d", c.re, c.repl, c.s, c.all, got, many, ok, c.want, c.many)
		}
		checkReplace(t, mustRe(t, c.re), c.repl, c.s)
	}
}

func TestReplaceByMadeExpressions(t *testing.T) {
	from := rand.New(rand.NewSource(94))
	texts, repls := allTexts("abc", 6), allTexts("&\\a", 4)
	for range 3000 {
		r := someRe(from, 2+from.Intn(12), 8, "abc")
		for range 4 {
			checkReplace(t, r, repls[from.Intn(len(repls))], texts[from.Intn(len(texts))])
		}
	}
}

// A text that comes out has at most MaxText bytes; how many the other texts have
// is not asked for.
func TestReplaceHasALimit(t *testing.T) {
	most := impl.MaxText
	cases := []struct {
		re, repl, s string
		all         bool
		size, many  int
	}{
		// Met exactly, and passed by one: by what is put, by all of them together, by
		// what is ahead, between and behind, and where there are none.
		{"b", bytesLong(most - 2), "aba", true, most, 1}, {"b", bytesLong(most - 1), "aba", true, -1, 0}, {"b", bytesLong(most), "b", false, most, 1}, {"b", bytesLong(most + 1), "b", false, -1, 0},
		{"a", "bb", bytesLong(most / 2), true, most, most / 2}, {"a", "bb", bytesLong(most/2 + 1), true, -1, 0}, {"a", "bb", bytesLong(most/2) + "c", true, -1, 0}, {"a", "bb", "c" + bytesLong(most/2), true, -1, 0}, {"a", "bb", "c" + bytesLong(most/2-1) + "c", true, most, most/2 - 1}, {"a", "&&", bytesLong(most / 2), true, most, most / 2}, {"a", "&&", bytesLong(most/2 + 1), true, -1, 0},
		{"a", "bb", bytesLong(most - 1), false, most, 1}, {"a", "bb", bytesLong(most), false, -1, 0}, {"a", "b", bytesLong(most), true, most, most}, {"a", "b", bytesLong(most), false, most, 1}, {"a", "b", bytesLong(most + 1), true, -1, 0}, {"a", "b", bytesLong(most + 1), false, -1, 0},
		{"z", "", bytesLong(most), true, most, 0}, {"z", "", bytesLong(most), false, most, 0}, {"z", "", bytesLong(most + 1), true, -1, 0}, {"z", "", bytesLong(most + 1), false, -1, 0}, {"z", bytesLong(most + 1), "a", true, 1, 0}, {"z", bytesLong(100000), "", false, 0, 0},
		{"", "b", bytesLong(most/2 - 1), true, most - 1, most / 2}, {"", "b", bytesLong(most / 2), true, -1, 0}, {"", "b", bytesLong(most/2-1) + "", false, most / 2, 1}, {"", "b", bytesLong(most - 1), false, most, 1}, {"", "b", bytesLong(most), false, -1, 0}, {"", "", bytesLong(most), true, most, most + 1}, {"", "", bytesLong(most + 1), true, -1, 0}, {"$", "b", bytesLong(most - 1), true, most, 1}, {"$", "b", bytesLong(most), true, -1, 0}, {"^", "b", bytesLong(most), true, -1, 0},
		// A text that was longer.
		{"a", "", bytesLong(most + 1), true, 0, most + 1}, {"a", "", bytesLong(most + 1), false, most, 1}, {"a", "", bytesLong(most + 2), false, -1, 0}, {"a", "b", "aa" + strings.Repeat("c", most-1), true, -1, 0}, {"aa", "b", "aa" + strings.Repeat("c", most-1), true, most, 1}, {"aa", "b", bytesLong(2 * most), true, most, most}, {"aa", "b", bytesLong(2*most + 1), true, -1, 0}, {"aa", "b", bytesLong(2*most + 2), true, -1, 0}, {"a*", "", bytesLong(30000), true, 0, 1}, {"a*b", "", bytesLong(30000) + "b" + bytesLong(most), true, most, 1}, {"a*b", "", bytesLong(30000) + "b" + bytesLong(most+1), true, -1, 0},
		// A repl of more bytes than what is put, and of as many.
		{"b", strings.Repeat("\\&", most), "b", true, most, 1}, {"b", strings.Repeat("\\&", most), "ba", true, -1, 0}, {"b", strings.Repeat("\\\\", most+1), "b", true, -1, 0}, {"b*", strings.Repeat("&", 10000), "", true, 0, 1}, {"b*", strings.Repeat("&", 10000), "a", true, 1, 2}, {"b", strings.Repeat("&", most), "b", true, most, 1}, {"b", strings.Repeat("&", most+1), "b", true, -1, 0}, {"bb", strings.Repeat("&", most/2), "bb", true, most, 1}, {"bb", strings.Repeat("&", most/2), "bba", true, -1, 0}, {"bb", strings.Repeat("&", most/2+1), "bb", true, -1, 0},
		// One that is too long stays so, whatever is behind it.
		{"a|b", strings.Repeat("&", 100), bytesLong(50) + "b", true, -1, 0}, {"b+", "&&", strings.Repeat("b", most/2+1) + "a", true, -1, 0}, {"b+", "&&", strings.Repeat("b", most/2+1) + "a", false, -1, 0}, {"b+", "&&", strings.Repeat("b", most/2+1) + "ab", true, -1, 0},
	}
	for i, c := range cases {
		got, many, ok := impl.Replace(mustRe(t, c.re), c.repl, c.s, c.all)
		if c.size < 0 && (ok || many != 0 || got != c.s) || c.size >= 0 && (!ok || many != c.many || len(got) != c.size) {
			t.Errorf("%d: %q in %d bytes: %d bytes, %d, %v", i, c.re, len(c.s), len(got), many, ok)
		}
		checkReplace(t, mustRe(t, c.re), c.repl, c.s)
	}
}

// Texts of about MaxText bytes come out as they are wanted, byte by byte.
func TestReplaceNearTheLimit(t *testing.T) {
	from := rand.New(rand.NewSource(95))
	refused := 0
	for range 60 {
		s := ""
		for len(s) < 1900+from.Intn(200) {
			s += strings.Repeat(string("abc"[from.Intn(3)]), 1+from.Intn(9))
		}
		for _, re := range []string{"a", "b*", "a+|c", "[ab]+", "$", "c?"} {
			repl := []string{"&&", "x&", "\\&\\&", "&\\\\&", "yz"}[from.Intn(5)]
			r := mustRe(t, re)
			checkReplace(t, r, repl, s)
			if _, _, ok := impl.Replace(r, repl, s, true); !ok {
				refused++
			}
		}
	}
	if refused < 20 || refused > 340 {
		t.Error(refused)
	}
}

func TestEscape(t *testing.T) {
	cases := map[string]string{
		"": "", "a": "a", "&": "\\&", "\\": "\\\\", "&&": "\\&\\&", "\\\\": "\\\\\\\\", "&\\": "\\&\\\\", "\\&": "\\\\\\&", "a&\\": "a\\&\\\\", "a&b\\c": "a\\&b\\\\c", "\\a": "\\\\a", "\\n": "\\\\n", "\n\t\x00\xff": "\n\t\x00\xff", "\u00e4&": "\u00e4\\&", ".^$()[]*+?{}|/\"": ".^$()[]*+?{}|/\"",
	}
	for s, want := range cases {
		if got := impl.Escape(s); got != want {
			t.Errorf("Escape(%q) = %q, not %q", s, got, want)
		}
	}
}

// Promise 9: what is escaped is put as it is, whatever was found.
func TestWhatIsEscapedIsPutAsItIs(t *testing.T) {
	texts := append(allTexts("&\\an", 6), allBytes(), strings.Repeat("&\\", 30000), bytesLong(30000))
	for _, s := range texts {
		repl := impl.Escape(s)
		for _, found := range []string{"", "a", "&", "\\", "\\&", "found"} {
			if got := impl.Put(repl, found); got != s {
				t.Fatalf("Put(Escape(%.100q), %q) = %.100q", s, found, got)
			}
		}
		if len(s) > impl.MaxText {
			continue
		}
		if got, many, ok := impl.Replace(mustRe(t, ".+"), repl, "found", true); got != s || many != 1 || !ok {
			t.Fatalf("%.100q escaped is put as %.100q, %d, %v", s, got, many, ok)
		}
	}
}

// Promise 9: what is put in the place of itself changes nothing.
func TestWhatIsPutInItsOwnPlaceChangesNothing(t *testing.T) {
	from := rand.New(rand.NewSource(96))
	texts := append(allTexts("ab&\\", 4), allBytes(), "banana", bytesLong(impl.MaxText))
	res := []impl.Re{}
	for _, fs := range separators() {
		if r, ok := impl.ParseRe(fs); ok {
			res = append(res, r)
		}
	}
	for range 100 {
		res = append(res, someRe(from, 2+from.Intn(12), 8, "ab&\\"))
	}
	for _, r := range res {
		for _, s := range texts {
			for _, all := range []bool{false, true} {
				many := len(impl.Matches(r, s))
				if !all {
					many = min(many, 1)
				}
				got, gotMany, ok := impl.Replace(r, "&", s, all)
				if got != s || gotMany != many || !ok {
					t.Fatalf("Replace(%q, \"&\", %.100q, %v) = %.100q, %d, %v, not %d", impl.ReText(r), s, all, got, gotMany, ok, many)
				}
			}
			if at, end := impl.FindRe(r, s, 0); at >= 0 {
				if got, _, ok := impl.Replace(r, impl.Escape(s[at:end]), s, false); got != s || !ok {
					t.Fatalf("%.100q by itself, escaped, for %q: %.100q, %v", s, impl.ReText(r), got, ok)
				}
			}
		}
	}
}

// Promise 17: what is no expression stands nowhere, and nothing is put for it.
func TestWhatIsNoExpressionIsNotReplaced(t *testing.T) {
	for i, r := range badRes() {
		for _, s := range []string{"", "a", "aaa", "\x00", bytesLong(impl.MaxText)} {
			if got := impl.Matches(r, s); len(got) != 0 {
				t.Errorf("%d: kind %d stands in %.20q: %v", i, r.Kind, s, got)
			}
			for _, all := range []bool{false, true} {
				if got, many, ok := impl.Replace(r, "x&", s, all); got != s || many != 0 || !ok {
					t.Errorf("%d: kind %d in %.20q: %.20q, %d, %v", i, r.Kind, s, got, many, ok)
				}
			}
		}
		long := bytesLong(impl.MaxText + 1)
		if got, many, ok := impl.Replace(r, "", long, true); got != long || many != 0 || ok {
			t.Errorf("%d: kind %d in a long text: %d bytes, %d, %v", i, r.Kind, len(got), many, ok)
		}
	}
}

// Promise 17: no argument is written into, an answer is the caller's alone, and
// nothing is kept.
func TestMatchesAreNewAndNotWrittenInto(t *testing.T) {
	spare := reSet("z")
	for _, r := range goodRes() {
		r.Kids = append(slices.Clone(r.Kids), spare)[:len(r.Kids)]
		before := copyRe(r)
		first, second := impl.Matches(r, "aabab"), impl.Matches(r, "aabab")
		was := slices.Clone(second)
		for i := range first {
			first[i] = [2]int{-7, -7}
		}
		_ = append(first, [2]int{-8, -8})
		if !slices.Equal(second, was) || !slices.Equal(impl.Matches(r, "aabab"), was) {
			t.Errorf("two answers of %q share memory", impl.ReText(before))
		}
		got, many, ok := impl.Replace(r, "<&>", "aabab", true)
		again, againMany, againOk := impl.Replace(r, "<&>", "aabab", true)
		if got != again || many != againMany || ok != againOk {
			t.Errorf("%q: something is kept", impl.ReText(before))
		}
		if !sameRe(r, before) || !sameRe(r.Kids[:len(r.Kids)+1][len(r.Kids)], spare) {
			t.Errorf("%q was written into", impl.ReText(before))
		}
	}
}

// What is too long is refused ahead of being put together: it may be longer than
// memory is.
func TestReplaceOfEverySize(t *testing.T) {
	begin := time.Now()
	big := bytesLong(1 << 20)
	ands := strings.Repeat("&", 1<<20)
	cases := []struct {
		re, repl, s string
		want        string
		many        int
		ok          bool
	}{
		{".*", ands, big, big, 0, false}, {"a", big, big, big, 0, false}, {"a", ands, big, big, 0, false}, {"x*", big, big, big, 0, false}, {"b", ands, big, big, 0, false}, {"x*", ands, bytesLong(impl.MaxText), bytesLong(impl.MaxText), impl.MaxText + 1, true}, {"a", strings.Repeat("\\&", 1<<20), "a", "a", 0, false}, {"a", "", big, "", 1 << 20, true}, {"a*", "x", big, "x", 1, true}, {"^a+$", "", big, "", 1, true}, {"b", ands, "a", "a", 0, true},
	}
	for i, c := range cases {
		if got, many, ok := impl.Replace(mustRe(t, c.re), c.repl, c.s, true); got != c.want || many != c.many || ok != c.ok {
			t.Errorf("%d: %.40q, %d, %v", i, got, many, ok)
		}
	}
	if got := impl.Put(ands+"\\&", "ab"); got != strings.Repeat("ab", 1<<20)+"&" {
		t.Errorf("%.40q", got)
	}
	if got := impl.Put("<&>", big); got != "<"+big+">" {
		t.Errorf("%.40q", got)
	}
	if got := impl.Escape(ands); got != strings.Repeat("\\&", 1<<20) {
		t.Errorf("%.40q", got)
	}
	if got := len(impl.Matches(mustRe(t, "a"), big)); got != 1<<20 {
		t.Error(got)
	}
	if got := len(impl.Matches(mustRe(t, "x*"), big)); got != 1<<20+1 {
		t.Error(got)
	}
	if time.Since(begin) > time.Minute {
		t.Error(time.Since(begin))
	}
}
