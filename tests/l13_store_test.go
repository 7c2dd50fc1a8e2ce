package tests

import (
	"cmp"
	"fmt"
	"hash/crc32"
	"math"
	"math/rand"
	"slices"
	"strings"
	"sync"
	"testing"
	"time"

	"loop.example/g00560/impl"
)

// nums tells the bound of a field that has no VStr.
func nums(low int, high int, least string, most string) impl.Bound {
	return impl.Bound{Nums: true, Low: low, High: high, Least: least, Most: most}
}

// strs tells the bound of a field that has one.
func strs(least string, most string) impl.Bound { return impl.Bound{Least: least, Most: most} }

// lacking is the bound of a field that no line has.
func lacking() impl.Bound { return nums(0, 0, "", "") }

// toEight tells bounds with those of fields that no line has behind.
func toEight(bounds ...impl.Bound) []impl.Bound {
	for len(bounds) < 8 {
		bounds = append(bounds, lacking())
	}
	return bounds
}

// wantedBounds tells the bounds by all that lines have in each field, in order.
func wantedBounds(lines []string) []impl.Bound {
	bounds := []impl.Bound{}
	for field := 0; field < 8 && len(lines) > 0; field++ {
		b, texts, numbers := impl.Bound{Nums: true}, []string{}, []int{}
		for _, line := range lines {
			words := strings.FieldsFunc(line, func(sign rune) bool { return sign == ' ' || sign == '\t' })
			if field >= len(words) {
				texts, numbers = append(texts, ""), append(numbers, 0)
				continue
			}
			n, _ := impl.ReadNum(words[field])
			texts, numbers = append(texts, words[field]), append(numbers, n)
			b.Nums = b.Nums && impl.LooksNum(words[field])
		}
		slices.Sort(texts)
		slices.Sort(numbers)
		b.Least, b.Most = texts[0], texts[len(texts)-1]
		if b.Nums {
			b.Low, b.High = numbers[0], numbers[len(numbers)-1]
		}
		bounds = append(bounds, b)
	}
	return bounds
}

// brief shows the beginning of what may be long.
func brief(x any) string { return fmt.Sprintf("%.300s", fmt.Sprintf("%q", x)) }

// checkWithin is what promise 13 says of bounds: all that lines have there is within.
func checkWithin(t *testing.T, lines []string, bounds []impl.Bound) {
	t.Helper()
	for _, line := range lines {
		r, _ := impl.RecOf(line, " ")
		for i, b := range bounds {
			v := impl.Val{}
			if i < len(r.Fields) {
				v = impl.FromText(r.Fields[i])
			}
			if s := impl.StrOf(v); s < b.Least || s > b.Most {
				t.Errorf("field %d of %.100q is beyond %.100q .. %.100q", i+1, line, b.Least, b.Most)
			}
			if n := impl.NumOf(v); b.Nums && (v.Kind == impl.VStr || n < b.Low || n > b.High) {
				t.Errorf("field %d of %.100q is beyond %d .. %d", i+1, line, b.Low, b.High)
			}
		}
	}
}

func checkBounds(t *testing.T, lines []string) []impl.Bound {
	t.Helper()
	got := impl.BoundsOf(lines)
	if want := wantedBounds(lines); !slices.Equal(got, want) {
		t.Errorf("BoundsOf(%s) = %s, not %s", brief(lines), brief(got), brief(want))
	}
	checkWithin(t, lines, got)
	return got
}

func sameBlock(a impl.Block, b impl.Block) bool {
	return slices.Equal(a.Lines, b.Lines) && slices.Equal(a.Bounds, b.Bounds)
}

func sameStore(a impl.Store, b impl.Store) bool {
	return slices.EqualFunc(a.Blocks, b.Blocks, sameBlock)
}

func copyStore(s impl.Store) impl.Store {
	blocks := []impl.Block{}
	for _, b := range s.Blocks {
		blocks = append(blocks, impl.Block{Lines: slices.Clone(b.Lines), Bounds: slices.Clone(b.Bounds)})
	}
	return impl.Store{Blocks: blocks}
}

// inBlocks tells the store of blocks of these lines, by bounds of the tests' own.
func inBlocks(blocks ...[]string) impl.Store {
	s := impl.Store{}
	for _, lines := range blocks {
		s.Blocks = append(s.Blocks, impl.Block{Lines: slices.Clone(lines), Bounds: wantedBounds(lines)})
	}
	return s
}

// numbered tells as many lines, no two of them alike.
func numbered(many int) []string {
	lines := []string{}
	for i := range many {
		lines = append(lines, fmt.Sprintf("%d line%d x", i, many-i))
	}
	return lines
}

// wantedPart is what the chapter says of a block's part.
func wantedPart(lines []string) string {
	text := ""
	for _, line := range lines {
		text += line + "\n"
	}
	return headed(len(lines), len(text), text) + text
}

// headed tells the head that text would have with these two ahead of its sum.
func headed(many any, size any, text string) string {
	return fmt.Sprintf("%v %v %d\n", many, size, crc32.ChecksumIEEE([]byte(text)))
}

func wantedBytes(s impl.Store) string {
	text := ""
	for _, b := range s.Blocks {
		text += wantedPart(b.Lines)
	}
	return text
}

func TestStoreConstants(t *testing.T) {
	if impl.MaxBlocks != 60 || impl.MaxBlock != 60 || impl.MaxBounds != 8 {
		t.Error(impl.MaxBlocks, impl.MaxBlock, impl.MaxBounds)
	}
}

func TestBoundsOf(t *testing.T) {
	long := bytesLong(2000)
	cases := []struct {
		lines []string
		want  []impl.Bound
	}{
		{nil, nil}, {[]string{}, nil},
		// One line, and one that has nothing.
		{[]string{""}, toEight()}, {[]string{" \t "}, toEight()}, {[]string{"a"}, toEight(strs("a", "a"))}, {[]string{"7"}, toEight(nums(7*one, 7*one, "7", "7"))}, {[]string{" 7\ta "}, toEight(nums(7*one, 7*one, "7", "7"), strs("a", "a"))},
		// All lines have the field, some lack it, none has it.
		{[]string{"1 a", "2 b"}, toEight(nums(one, 2*one, "1", "2"), strs("a", "b"))}, {[]string{"1 a", "2"}, toEight(nums(one, 2*one, "1", "2"), strs("", "a"))}, {[]string{"1", "2 a"}, toEight(nums(one, 2*one, "1", "2"), strs("", "a"))}, {[]string{"1 5", "2"}, toEight(nums(one, 2*one, "1", "2"), nums(0, 5*one, "", "5"))}, {[]string{"2", "1 -5"}, toEight(nums(one, 2*one, "1", "2"), nums(-5*one, 0, "", "-5"))}, {[]string{"", "3"}, toEight(nums(0, 3*one, "", "3"))}, {[]string{"3", ""}, toEight(nums(0, 3*one, "", "3"))}, {[]string{"", ""}, toEight()}, {[]string{"", "a", ""}, toEight(strs("", "a"))}, {[]string{"a b c", "a", "a b"}, toEight(strs("a", "a"), strs("", "b"), strs("", "c"))},
		// Numbers and texts whose orders differ.
		{[]string{"9", "10"}, toEight(nums(9*one, 10*one, "10", "9"))}, {[]string{"10", "9"}, toEight(nums(9*one, 10*one, "10", "9"))}, {[]string{"9", "10", "100", "8"}, toEight(nums(8*one, 100*one, "10", "9"))}, {[]string{"5", "05", "+5", "5.0", "5."}, toEight(nums(5*one, 5*one, "+5", "5.0"))}, {[]string{"-1", "-2", "-10"}, toEight(nums(-10*one, -one, "-1", "-2"))}, {[]string{"-1", "1", "0"}, toEight(nums(-one, one, "-1", "1"))}, {[]string{"-", "+", "1"}, toEight(strs("+", "1"))},
		{[]string{"1.5", "1.25", ".5", "-.5"}, toEight(nums(-500000, 1500000, "-.5", "1.5"))}, {[]string{"0.0000001", "-0"}, toEight(nums(0, 0, "-0", "0.0000001"))}, {[]string{"0.000001", "0.0000019"}, toEight(nums(1, 1, "0.000001", "0.0000019"))},
		{[]string{"1000000", "-1000000"}, toEight(nums(-maxNum, maxNum, "-1000000", "1000000"))}, {[]string{"1000001", "5"}, toEight(strs("1000001", "5"))}, {[]string{"5", "-1000001"}, toEight(strs("-1000001", "5"))}, {[]string{"1000000.000001"}, toEight(strs("1000000.000001", "1000000.000001"))}, {[]string{"1000000.0000001"}, toEight(nums(maxNum, maxNum, "1000000.0000001", "1000000.0000001"))}, {[]string{strings.Repeat("0", 60)}, toEight(nums(0, 0, strings.Repeat("0", 60), strings.Repeat("0", 60)))}, {[]string{strings.Repeat("0", 61)}, toEight(strs(strings.Repeat("0", 61), strings.Repeat("0", 61)))},
		// One text alone is enough: Low and High tell nothing, wherever it stands.
		{[]string{"7x", "8x"}, toEight(strs("7x", "8x"))}, {[]string{"7x", "8", "9"}, toEight(strs("7x", "9"))}, {[]string{"7", "8x", "9"}, toEight(strs("7", "9"))}, {[]string{"7", "8", "9x"}, toEight(strs("7", "9x"))}, {[]string{"a", "5", ""}, toEight(strs("", "a"))}, {[]string{"", "a", "5"}, toEight(strs("", "a"))}, {[]string{"5 a", "6 7"}, toEight(nums(5*one, 6*one, "5", "6"), strs("7", "a"))}, {[]string{"a 5", "6 7"}, toEight(strs("6", "a"), nums(5*one, 7*one, "5", "7"))},
		{[]string{"a", "B", "\xff", "\x00"}, toEight(strs("\x00", "\xff"))}, {[]string{"ab", "a", "aa"}, toEight(strs("a", "ab"))}, {[]string{"\u00e4", "z"}, toEight(strs("z", "\u00e4"))}, {[]string{"1e5", "0x10"}, toEight(strs("0x10", "1e5"))}, {[]string{"a,b;c"}, toEight(strs("a,b;c", "a,b;c"))},
		// Just eight fields, and those beyond.
		{[]string{"1 2 3 4 5 6 7 8"}, []impl.Bound{nums(one, one, "1", "1"), nums(2*one, 2*one, "2", "2"), nums(3*one, 3*one, "3", "3"), nums(4*one, 4*one, "4", "4"), nums(5*one, 5*one, "5", "5"), nums(6*one, 6*one, "6", "6"), nums(7*one, 7*one, "7", "7"), nums(8*one, 8*one, "8", "8")}},
		{[]string{"a a a a a a a a 9 b", "b b b b b b b b"}, slices.Repeat([]impl.Bound{strs("a", "b")}, 8)}, {[]string{strings.Repeat("1 ", 8) + "x", strings.Repeat("3 ", 1000)}, slices.Repeat([]impl.Bound{nums(one, 3*one, "1", "3")}, 8)}, {[]string{"1 1 1 1 1 1 1", "2 2 2 2 2 2 2 x"}, append(slices.Repeat([]impl.Bound{nums(one, 2*one, "1", "2")}, 7), strs("", "x"))},
		// What is no store's has bounds, too.
		{[]string{"a\nb c", "b"}, toEight(strs("a\nb", "b"), strs("", "c"))}, {[]string{"5\n", "6"}, toEight(nums(5*one, 6*one, "5\n", "6"))}, {[]string{long, long + "a"}, toEight(strs(long, long+"a"))}, {[]string{long + " 1 2", "b 3"}, toEight(strs(long, "b"), nums(one, 3*one, "1", "3"), nums(0, 2*one, "", "2"))},
		{append(numbered(200), "-7"), toEight(nums(-7*one, 199*one, "-7", "99"), strs("", "line99"), strs("", "x"))},
	}
	for _, c := range cases {
		if got := checkBounds(t, c.lines); !slices.Equal(got, c.want) {
			t.Errorf("BoundsOf(%s) = %s, not %s", brief(c.lines), brief(got), brief(c.want))
		}
	}
}

// The order of lines changes no bound, nor does a line that is there twice.
func TestBoundsHangOnNoOrder(t *testing.T) {
	from := rand.New(rand.NewSource(131))
	for range 2000 {
		lines := someStoreLines(from, 1+from.Intn(6))
		want := impl.BoundsOf(lines)
		from.Shuffle(len(lines), func(i int, j int) { lines[i], lines[j] = lines[j], lines[i] })
		if got := impl.BoundsOf(append(lines, lines[0])); !slices.Equal(got, want) {
			t.Errorf("%q: %v, not %v", lines, got, want)
		}
	}
}

// Every two values of chapter 3 side by side in one field, and in the last one.
func TestBoundsOfEachTwoValues(t *testing.T) {
	texts := []string{}
	for _, s := range textsForValues() {
		if !strings.ContainsAny(s, " \t") {
			texts = append(texts, s)
		}
	}
	for _, a := range texts {
		checkBounds(t, []string{a})
		for _, b := range texts {
			checkBounds(t, []string{a, b})
			checkBounds(t, []string{"1 2 3 4 5 6 7 " + a + " " + b, "x " + b, "1 2 3 4 5 6 7 " + b})
		}
	}
}

// someStoreLines tells lines of a store, whose fields are numbers, what looks like
// some, and texts, and may be lacking.
func someStoreLines(from *rand.Rand, many int) []string {
	words := []string{"0", "1", "9", "10", "-3", "05", "+7", "1.5", ".25", "-0.5", "1000000", "1000001", "a", "b7", "7b", "-", "Z", "\xff", "\x00", "\u00e4"}
	blanks := []string{" ", " ", " ", "  ", "\t"}
	lines := []string{}
	for range many {
		line := ""
		for i := range from.Intn(11) {
			if word := words[from.Intn(len(words))]; i%2 == 0 {
				line += word
			} else {
				line += words[from.Intn(11)]
			}
			line += blanks[from.Intn(len(blanks))]
		}
		lines = append(lines, line)
	}
	return lines
}

func TestBoundsOfMadeLines(t *testing.T) {
	from := rand.New(rand.NewSource(132))
	both := map[bool]int{}
	for range 4000 {
		for _, b := range checkBounds(t, someStoreLines(from, from.Intn(8))) {
			both[b.Nums]++
		}
	}
	if both[true] < 1000 || both[false] < 1000 {
		t.Error(both)
	}
}

// checkBuild tells the store of lines, which is one of so many blocks.
func checkBuild(t *testing.T, lines []string, size int, blocks int) impl.Store {
	t.Helper()
	s, ok := impl.Build(lines, size)
	if !ok || len(s.Blocks) != blocks || !impl.StoreOk(s) {
		t.Fatalf("Build(%d lines, %d): %t, %d blocks, not %d", len(lines), size, ok, len(s.Blocks), blocks)
	}
	if !slices.Equal(impl.LinesOf(s), lines) {
		t.Errorf("Build(%d lines, %d): lines do not come back", len(lines), size)
	}
	want := inBlocks(slices.Collect(slices.Chunk(lines, size))...)
	if !sameStore(s, want) {
		t.Errorf("Build(%s, %d) = %s", brief(lines), size, brief(s))
	}
	for _, b := range s.Blocks {
		checkWithin(t, b.Lines, b.Bounds)
	}
	return s
}

func checkNoBuild(t *testing.T, lines []string, size int) {
	t.Helper()
	if s, ok := impl.Build(lines, size); ok || len(s.Blocks) != 0 {
		t.Errorf("Build(%d lines, %d): %t, %d blocks", len(lines), size, ok, len(s.Blocks))
	}
}

func TestBuild(t *testing.T) {
	cases := []struct{ lines, size, blocks int }{
		{0, 1, 0}, {0, 2, 0}, {0, 60, 0},
		{1, 1, 1}, {2, 1, 2}, {59, 1, 59}, {60, 1, 60},
		{1, 2, 1}, {2, 2, 1}, {3, 2, 2}, {4, 2, 2}, {5, 2, 3}, {119, 2, 60}, {120, 2, 60}, {118, 2, 59},
		{6, 3, 2}, {7, 3, 3}, {8, 3, 3}, {9, 3, 3}, {180, 3, 60}, {178, 3, 60},
		{1, 60, 1}, {59, 60, 1}, {60, 60, 1}, {61, 60, 2}, {120, 60, 2}, {121, 60, 3}, {3540, 60, 59}, {3541, 60, 60}, {3599, 60, 60}, {3600, 60, 60}, {58, 59, 1}, {59, 59, 1}, {60, 59, 2}, {3540, 59, 60},
	}
	for _, c := range cases {
		checkBuild(t, numbered(c.lines), c.size, c.blocks)
	}
	for _, c := range []struct{ lines, size int }{{61, 1}, {62, 1}, {121, 2}, {122, 2}, {181, 3}, {3541, 59}, {3601, 60}, {3660, 60}, {100000, 60}} {
		checkNoBuild(t, numbered(c.lines), c.size)
	}
}

func TestBuildOfSizes(t *testing.T) {
	t.Parallel()
	for size := 1; size <= 60; size++ {
		for many := range 130 {
			if blocks := (many + size - 1) / size; blocks <= 60 {
				checkBuild(t, numbered(many), size, blocks)
			} else {
				checkNoBuild(t, numbered(many), size)
			}
		}
		checkBuild(t, make([]string, size*60), size, 60)
		checkNoBuild(t, make([]string, size*60+1), size)
	}
	for _, size := range []int{0, -1, -2, -60, 61, 62, 100, 1 << 32, 1<<32 + 1, math.MaxInt, math.MaxInt/60 + 1, math.MinInt, math.MinInt + 1} {
		for _, many := range []int{0, 1, 2, 60, 61, 3600} {
			checkNoBuild(t, numbered(many), size)
		}
	}
}

func TestBuildOfLines(t *testing.T) {
	most := bytesLong(2000)
	good := []string{"", " ", "\t", "\r", "a", "\x00\xff", "\u00e4", most, strings.Repeat(" ", 2000), strings.Repeat("a ", 1000), allBytes()[11:], allBytes()[:10]}
	for _, line := range good {
		for _, lines := range [][]string{{line}, {"a", line}, {line, "a", line}, good} {
			checkBuild(t, lines, 60, 1)
			checkBuild(t, lines, 1, len(lines))
		}
	}
	for _, line := range []string{"\n", "a\n", "\na", "a\nb", "\n\n", "\r\n", allBytes(), most + "a", most + " ", strings.Repeat(" ", 2001), bytesLong(5000), most[1:] + "\na", most[1:] + "\n"} {
		for _, lines := range [][]string{{line}, {line, "a"}, {"a", line}, {"a", line, "a"}, append(numbered(100), line)} {
			for _, size := range []int{1, 2, 59, 60, 0, 61} {
				checkNoBuild(t, lines, size)
			}
		}
	}
}

func TestStoreOk(t *testing.T) {
	most := bytesLong(2000)
	good := []impl.Store{
		{}, {Blocks: []impl.Block{}}, inBlocks([]string{""}), inBlocks([]string{"a"}), inBlocks([]string{"1 2 x", "3"}), inBlocks(numbered(60)), inBlocks(slices.Repeat([][]string{{"1"}}, 60)...), inBlocks(slices.Repeat([][]string{numbered(60)}, 60)...), inBlocks([]string{most}), inBlocks(slices.Repeat([]string{most}, 60)),
		// Blocks are as long as they like, the last one too.
		inBlocks([]string{"1"}, []string{"2", "3"}), inBlocks([]string{"1", "2"}, []string{"3"}, []string{"4", "5", "6"}), inBlocks(numbered(1), numbered(60), numbered(7)),
	}
	for i, s := range good {
		if !impl.StoreOk(s) {
			t.Errorf("good %d is a store", i)
		}
	}
	one := impl.Block{Lines: []string{"1"}, Bounds: wantedBounds([]string{"1"})}
	bad := []impl.Store{
		inBlocks(nil), inBlocks([]string{}), inBlocks([]string{"1"}, nil), inBlocks(nil, []string{"1"}), inBlocks(slices.Repeat([][]string{nil}, 60)...), {Blocks: []impl.Block{{}}}, {Blocks: []impl.Block{{Bounds: toEight()}}}, {Blocks: []impl.Block{one, {Bounds: toEight()}, one}},
		inBlocks(numbered(61)), inBlocks(make([]string, 61)), inBlocks([]string{"1"}, numbered(61)), inBlocks(numbered(3600)), inBlocks(slices.Repeat([][]string{{"1"}}, 61)...), inBlocks(slices.Repeat([][]string{numbered(60)}, 61)...),
		inBlocks([]string{"\n"}), inBlocks([]string{"1\n"}), inBlocks([]string{"a", "a\nb"}), inBlocks([]string{"a"}, []string{"\na"}), inBlocks([]string{most + "a"}), inBlocks([]string{"a", most + " ", "a"}), inBlocks(append(numbered(59), bytesLong(2001))), inBlocks([]string{"a"}, []string{"b"}, []string{bytesLong(5000)}),
		{Blocks: []impl.Block{{Lines: []string{"1"}}}}, {Blocks: []impl.Block{{Lines: []string{""}, Bounds: make([]impl.Bound, 8)}}}, {Blocks: []impl.Block{{Lines: []string{"2"}, Bounds: one.Bounds}}}, {Blocks: []impl.Block{{Lines: []string{"1", "2"}, Bounds: one.Bounds}}}, {Blocks: []impl.Block{{Lines: []string{"1"}, Bounds: wantedBounds([]string{"1", "2"})}}}, {Blocks: []impl.Block{one, {Lines: []string{"3"}, Bounds: one.Bounds}}},
	}
	for i, s := range bad {
		if impl.StoreOk(s) {
			t.Errorf("bad %d is no store", i)
		}
		if impl.PutStore(s) != "" {
			t.Errorf("bad %d is put", i)
		}
	}
}

// otherBounds tells b with one member other than it is.
func otherBounds(b impl.Bound) []impl.Bound {
	list := []impl.Bound{}
	add := func(change func(b *impl.Bound)) {
		other := b
		change(&other)
		list = append(list, other)
	}
	add(func(b *impl.Bound) { b.Nums = !b.Nums })
	for _, by := range []int{1, -1, one, -one, math.MaxInt} {
		add(func(b *impl.Bound) { b.Low += by })
		add(func(b *impl.Bound) { b.High += by })
		add(func(b *impl.Bound) { b.Low, b.High = b.Low-by, b.High+by })
	}
	for _, more := range []string{"x", " ", "\x00", "0"} {
		add(func(b *impl.Bound) { b.Least += more })
		add(func(b *impl.Bound) { b.Most += more })
		add(func(b *impl.Bound) { b.Least = more + b.Least })
		add(func(b *impl.Bound) { b.Most = more + b.Most })
	}
	add(func(b *impl.Bound) { b.Least += "x"; b.Most += "x" })
	return list
}

func TestStoreOkAsksForEachBound(t *testing.T) {
	for _, block := range [][]string{{"1"}, {""}, {"9 a", "10 b x"}, {"-5 x", "7"}, numbered(60)} {
		for many := 1; many <= 3; many++ {
			s := inBlocks(slices.Repeat([][]string{block}, many)...)
			for at := range s.Blocks {
				for i, b := range s.Blocks[at].Bounds {
					for _, other := range otherBounds(b) {
						s.Blocks[at].Bounds[i] = other
						if impl.StoreOk(s) || impl.PutStore(s) != "" {
							t.Errorf("%.100q: %v in the place of %v", block, other, b)
						}
					}
					s.Blocks[at].Bounds[i] = b
				}
				right := s.Blocks[at].Bounds
				for _, wrong := range [][]impl.Bound{nil, {}, right[:1], right[:7], right[1:], append(slices.Clone(right), lacking()), append(slices.Clone(right), right...), append([]impl.Bound{right[7]}, right[:7]...), make([]impl.Bound, 8), make([]impl.Bound, 100000)} {
					s.Blocks[at].Bounds = wrong
					if !slices.Equal(wrong, right) && (impl.StoreOk(s) || impl.PutStore(s) != "") {
						t.Errorf("%.100q: %d bounds", block, len(wrong))
					}
				}
				s.Blocks[at].Bounds = right
			}
			if !impl.StoreOk(s) {
				t.Errorf("%.100q is a store again", block)
			}
		}
	}
}

// Lines that are changed behind a store's back have other bounds, or the same: that
// alone is asked for.
func TestStoreOkOfOtherLines(t *testing.T) {
	lines := []string{"1 a", "5 c", "3 b"}
	for other, want := range map[string]bool{"3 b": true, "2 b": true, "1 a": true, "5 c": true, "4.5   bb": true, "\t2\tb ": true, "6 b": false, "0 b": false, "3 d": false, "3": false, "": false, "x b": false, "3 7": false, "3 b c": false, "05 b": false, "3 b 0": false} {
		s := inBlocks(lines)
		s.Blocks[0].Lines[2] = other
		if impl.StoreOk(s) != want || (impl.PutStore(s) != "") != want {
			t.Errorf("%q: %t", other, !want)
		}
	}
}

func TestLinesOf(t *testing.T) {
	cases := []struct {
		s    impl.Store
		want []string
	}{
		{impl.Store{}, nil}, {inBlocks([]string{"a"}), []string{"a"}}, {inBlocks([]string{"a", ""}, []string{"", "b"}, []string{"a"}), []string{"a", "", "", "b", "a"}}, {inBlocks(numbered(60)[:30], numbered(60)[30:]), numbered(60)},
		// What is no store has lines, too.
		{impl.Store{Blocks: []impl.Block{{}}}, nil}, {impl.Store{Blocks: []impl.Block{{Lines: []string{"a\nb", "c"}}, {}, {Lines: []string{bytesLong(3000)}}}}, []string{"a\nb", "c", bytesLong(3000)}}, {inBlocks(numbered(61), nil, numbered(100)), append(numbered(61), numbered(100)...)}, {inBlocks(slices.Repeat([][]string{{"1", "2"}}, 100)...), slices.Repeat([]string{"1", "2"}, 100)},
	}
	for i, c := range cases {
		if got := impl.LinesOf(c.s); !slices.Equal(got, c.want) {
			t.Errorf("%d: %s", i, brief(got))
		}
	}
}

// wantedCrc is the chapter's words, sign by sign, on 64 bits.
func wantedCrc(s string) uint32 {
	sum := uint64(4294967295)
	for i := range len(s) {
		sum ^= uint64(s[i])
		for times := 0; times < 8; times++ {
			odd := sum%2 == 1
			sum /= 2
			if odd {
				sum ^= 3988292384
			}
		}
	}
	return uint32(sum ^ 4294967295)
}

func checkCrc(t *testing.T, s string) {
	t.Helper()
	got := impl.Crc(s)
	if got != wantedCrc(s) || got != crc32.ChecksumIEEE([]byte(s)) {
		t.Errorf("Crc(%.60q) = %d", s, got)
	}
}

func TestCrc(t *testing.T) {
	cases := map[string]uint32{
		"": 0, "a": 3904355907, "\x00": 3523407757, "\xff": 4278190080, "\n": 852952723, "abc": 891568578, "123456789": 3421780262, "The quick brown fox jumps over the lazy dog": 1095738169, "\xff\xff\xff\xff": 4294967295, "\x00\x00\x00\x00": 558161692,
	}
	for s, want := range cases {
		if got := impl.Crc(s); got != want {
			t.Errorf("Crc(%q) = %d", s, got)
		}
	}
	all := allBytes()
	for i := range all {
		checkCrc(t, all[i:i+1])
		checkCrc(t, all[:i])
		checkCrc(t, all[i:])
		for j := range all {
			checkCrc(t, all[i:i+1]+all[j:j+1])
		}
	}
	for _, s := range allTexts("a\x00\n", 6) {
		checkCrc(t, s)
	}
	from := rand.New(rand.NewSource(133))
	for size := range 600 {
		bytes := make([]byte, size*size/100)
		from.Read(bytes)
		checkCrc(t, string(bytes))
	}
	checkCrc(t, strings.Repeat(all, 10000))
}

func TestPutStore(t *testing.T) {
	cases := []struct {
		s    impl.Store
		want string
	}{
		{impl.Store{}, ""}, {inBlocks([]string{""}), "1 1 852952723\n\n"}, {inBlocks([]string{"", ""}), "2 2 1541608299\n\n\n"}, {inBlocks([]string{"123456789"}), "1 10 3759241047\n123456789\n"}, {inBlocks([]string{"a", "b c"}), "2 6 1069403631\na\nb c\n"},
		{inBlocks([]string{"a"}, []string{"", "b"}), "1 2 3723141383\na\n2 3 1170783487\n\nb\n"}, {inBlocks([]string{"1 1 852952723", ""}), "2 15 3990785985\n1 1 852952723\n\n"},
	}
	for _, c := range cases {
		if got := impl.PutStore(c.s); got != c.want || got != wantedBytes(c.s) {
			t.Errorf("PutStore(%s) = %s", brief(impl.LinesOf(c.s)), brief(got))
		}
	}
	// Lengths and sums of as many digits as they have.
	digits := map[int]bool{}
	for i := range 3000 {
		line := fmt.Sprint("x", i)
		part := impl.PutStore(inBlocks([]string{line}))
		if part != wantedPart([]string{line}) {
			t.Errorf("%q", part)
		}
		digits[len(part)-len("1 4 \n\n")-len(line)] = true
	}
	if len(digits) < 3 {
		t.Error(digits)
	}
	for _, size := range []int{0, 1, 8, 9, 98, 99, 998, 999, 1998, 1999, 2000} {
		s := inBlocks([]string{bytesLong(size)})
		if head := fmt.Sprintf("1 %d ", size+1); !strings.HasPrefix(impl.PutStore(s), head) {
			t.Errorf("%d bytes: %.40q", size, impl.PutStore(s))
		}
	}
}

// checkPut puts a store and gets it again.
func checkGetPut(t *testing.T, s impl.Store) {
	t.Helper()
	text := impl.PutStore(s)
	if text != wantedBytes(s) {
		t.Fatalf("PutStore of %d blocks: %s, not %s", len(s.Blocks), brief(text), brief(wantedBytes(s)))
	}
	back, ok := impl.GetStore(text)
	if !ok || !sameStore(back, s) || !impl.StoreOk(back) || impl.PutStore(back) != text {
		t.Fatalf("GetStore(%s): %t, %s", brief(text), ok, brief(back))
	}
}

func checkNoStore(t *testing.T, text string) {
	t.Helper()
	if s, ok := impl.GetStore(text); ok || len(s.Blocks) != 0 {
		t.Errorf("GetStore(%s): %t, %s", brief(text), ok, brief(s))
	}
}

// someStore tells a store of blocks of any sizes.
func someStore(from *rand.Rand, blocks int, size int) impl.Store {
	parts := [][]string{}
	for range blocks {
		parts = append(parts, someStoreLines(from, 1+from.Intn(size)))
	}
	return inBlocks(parts...)
}

// Promise 13: lines come back from their store, and a store from its bytes.
func TestStoresComeBackFromTheirBytes(t *testing.T) {
	t.Parallel()
	for _, s := range []impl.Store{{}, inBlocks([]string{""}), inBlocks(slices.Repeat([][]string{make([]string, 60)}, 60)...), inBlocks(slices.Repeat([][]string{slices.Repeat([]string{bytesLong(2000)}, 60)}, 60)...), inBlocks([]string{"\r", "\x00", "\xff\xfe", allBytes()[:10], allBytes()[11:]})} {
		checkGetPut(t, s)
	}
	for size := 1; size <= 60; size++ {
		checkGetPut(t, checkBuild(t, numbered(size*3), size, 3))
		checkGetPut(t, checkBuild(t, numbered(size*60), size, 60))
		checkGetPut(t, inBlocks(numbered(61-size), numbered(size)))
		checkGetPut(t, inBlocks(slices.Repeat([][]string{numbered(3)}, size)...))
	}
	from := rand.New(rand.NewSource(134))
	for range 1500 {
		s := someStore(from, from.Intn(6), 1+from.Intn(60))
		checkGetPut(t, s)
		lines, size := impl.LinesOf(s), 5+from.Intn(56)
		checkGetPut(t, checkBuild(t, lines, size, (len(lines)+size-1)/size))
	}
	for range 30 {
		checkGetPut(t, someStore(from, 55+from.Intn(6), 60))
	}
}

// Lines that look like a part are lines.
func TestStoresOfPartsOfStores(t *testing.T) {
	s := inBlocks([]string{"a"}, []string{"b", "c"})
	for range 4 {
		lines := impl.Lines(impl.PutStore(s))
		s = checkBuild(t, lines, 3, (len(lines)+2)/3)
		checkGetPut(t, s)
	}
}

func TestGetStore(t *testing.T) {
	if s, ok := impl.GetStore(""); !ok || len(s.Blocks) != 0 {
		t.Error("the empty text is that of no blocks")
	}
	two := wantedPart([]string{"a", "b c"})
	for _, text := range []string{two, two + two, two + wantedPart([]string{""}), wantedPart(numbered(60)), strings.Repeat(two, 60), wantedPart([]string{bytesLong(2000)})} {
		s, ok := impl.GetStore(text)
		if !ok || wantedBytes(s) != text || !impl.StoreOk(s) {
			t.Errorf("%.100q: %t", text, ok)
		}
	}
	bad := []string{
		"x", "\n", "\n\n", " ", "1", "1 ", "1 1", "1 1 ", "1 1 852952723", "1 1 852952723\n", "852952723\n\n", "1 852952723\n\n", "1  852952723\n\n", "1 1 \n\n", " 1 852952723\n\n", "  \n\n", "   ", "1 1 852952723 \n\n", "1 1 852952723 1\n\n", "1 1 1 852952723\n\n",
		// Blocks and lines beyond the limits, of right lengths and sums.
		strings.Repeat(two, 61), strings.Repeat(two, 1000), wantedPart(numbered(61)), wantedPart(make([]string, 61)), two + wantedPart(numbered(100)), wantedPart([]string{bytesLong(2001)}), wantedPart([]string{"a", bytesLong(2001), "a"}), two + wantedPart([]string{bytesLong(100000)}) + two,
		// A part without lines.
		headed(0, 0, ""), "0 0 0\n", headed(0, 1, "\n") + "\n", headed(0, 2, "a\n") + "a\n", headed(1, 0, ""), two + headed(0, 0, ""), headed(0, 0, "") + two, wantedPart(nil),
		// The last line without a newline.
		headed(1, 1, "a") + "a", headed(1, 2, "a\n") + "a", headed(2, 3, "a\nb") + "a\nb", headed(1, 0, "") + "", headed(1, 1, "a") + "a" + two, headed(1, 1, "a") + "a\n", headed(2, 2, "a\n") + "a\n\n",
		// A line more or less, a length beyond what is there, or less than that.
		headed(1, 6, "a\nb c\n") + "a\nb c\n", headed(3, 6, "a\nb c\n") + "a\nb c\n", headed(2, 5, "a\nb c\n") + "a\nb c\n", headed(2, 7, "a\nb c\n") + "a\nb c\n", headed(2, 7, "a\nb c\n\n") + "a\nb c\n\n", headed(60, 6, "a\nb c\n") + "a\nb c\n", headed(1, 2, "a\nb c\n") + "a\nb c\n", headed(2, 999999999, "a\nb c\n") + "a\nb c\n", headed(2, 6, "a\nb c") + "a\nb c\n", headed(2, 6, "a\nb c\n")[1:] + "a\nb c\n", headed(1, 2, "a\n") + "a\nb\n", headed(2, 2, "a\n") + "a\n", headed(2, 4, "a\nb\n") + "a\n" + "b",
		// Bytes behind the last part.
		two + "\n", two + " ", two + "x", two + "\x00", two + "0", two + "1", two + "1 1 852952723\n", two + two[:len(two)-1], two + "x" + two, two + "\n" + two, "\n" + two, " " + two, two[1:], two[:len(two)-1],
		strings.ReplaceAll(two, "\n", "\r\n"), strings.Replace(two, "\n", "\r\n", 1), strings.Replace(two, "\n", " \n", 1), strings.ReplaceAll(two, " ", "\t"), strings.Replace(two, " ", "  ", 1), strings.Replace(two, "\n", "", 1), strings.Replace(two, "\n", "\n\n", 1), strings.ToUpper(two), strings.Repeat("1 1 852952723\n", 2), strings.Repeat("\n", 3),
	}
	for _, text := range bad {
		checkNoStore(t, text)
	}
}

// A number of a head has one text alone: that of DecText.
func TestGetStoreOfOtherNumbers(t *testing.T) {
	for _, lines := range [][]string{{"a", "b c"}, {""}, {"123456789"}, numbered(60)} {
		part := wantedPart(lines)
		head, text, _ := strings.Cut(part, "\n")
		words := strings.Split(head, " ")
		for i, word := range words {
			others := []string{"", "0" + word, "00" + word, "+" + word, "-" + word, "--" + word, " " + word, word + " ", "\t" + word, word + "\t", word + ".", word + ".0", "0x" + word, word + "e0", word + "0", word + "x", "_" + word, "1_" + word, "\u0661", "0", "-0", "-1", "1", "9", "61", "18446744073709551617", "9223372036854775808", "99999999999999999999999", "999999999", "1000000000", "4294967295", "4294967296", "-9223372036854775808", word + "\n", "\n" + word, "\x00" + word, fmt.Sprintf("%x", impl.Crc(text)), fmt.Sprint(int32(impl.Crc(text))), fmt.Sprint(int(impl.Crc(text)) + 1<<32), fmt.Sprint(int(impl.Crc(text)) - 1<<32), fmt.Sprint(impl.Crc(text) + 1), fmt.Sprint(^impl.Crc(text)), fmt.Sprint(impl.ReadDec(word) + 1<<32)}
			for _, other := range others {
				changed := slices.Clone(words)
				changed[i] = other
				if got := strings.Join(changed, " ") + "\n" + text; got != part {
					checkNoStore(t, got)
					checkNoStore(t, part+got)
				}
			}
		}
		checkNoStore(t, words[1]+" "+words[0]+" "+words[2]+"\n"+text+"x")
		checkNoStore(t, words[2]+" "+words[1]+" "+words[0]+"\n"+text)
	}
	// A sum of fewer digits has no noughts ahead, either.
	for i := range 3000 {
		text := fmt.Sprint("x", i, "\n")
		if sum := impl.Crc(text); sum < 100000000 {
			checkGetPut(t, inBlocks([]string{text[:len(text)-1]}))
			for _, form := range []string{"%09d", "%010d", "%9d", "%10d", "%-10d", "%+d"} {
				checkNoStore(t, fmt.Sprintf("1 %d "+form+"\n%s", len(text), sum, text))
			}
		}
	}
}

// Each byte of a store's text changed into each other one, left out, or put in one
// time more; each byte put in at each place; and each beginning and each end.
func TestGetStoreOfSpoiltTexts(t *testing.T) {
	all := allBytes()
	for _, s := range []impl.Store{inBlocks([]string{"a", "", "1 2"}, []string{"b"}), inBlocks([]string{""}), inBlocks([]string{"", ""}, []string{"\x00\xff"}, []string{"1 2 852952723", ""}), inBlocks(numbered(11))} {
		text := wantedBytes(s)
		starts := []int{0}
		for _, b := range s.Blocks {
			starts = append(starts, starts[len(starts)-1]+len(wantedPart(b.Lines)))
		}
		for i := range text {
			checkNoStore(t, text[:i]+text[i+1:])
			checkNoStore(t, text[:i]+text[i:i+1]+text[i:])
			for b := range all {
				if all[b] != text[i] {
					checkNoStore(t, text[:i]+all[b:b+1]+text[i+1:])
				}
				checkNoStore(t, text[:i]+all[b:b+1]+text[i:])
			}
			// What is cut between two parts is a store of fewer blocks.
			if at := slices.Index(starts, i); at >= 0 {
				checkPart(t, text[:i], impl.Store{Blocks: s.Blocks[:at]})
				checkPart(t, text[i:], impl.Store{Blocks: s.Blocks[at:]})
			} else {
				checkNoStore(t, text[:i])
				checkNoStore(t, text[i:])
			}
		}
		for b := range all {
			checkNoStore(t, text+all[b:b+1])
		}
	}
}

func checkPart(t *testing.T, text string, want impl.Store) {
	t.Helper()
	if s, ok := impl.GetStore(text); !ok || !sameStore(s, want) {
		t.Errorf("GetStore(%s): %t, %s", brief(text), ok, brief(s))
	}
}

// No text of a store is that of another one, and each text that is taken is put
// again.
func TestGetStoreOfMixedTexts(t *testing.T) {
	from := rand.New(rand.NewSource(135))
	seen := map[bool]int{}
	for range 20000 {
		text := ""
		for range from.Intn(4) {
			part := wantedPart(someStoreLines(from, 1+from.Intn(3)))
			switch from.Intn(8) {
			case 0:
				part = part[from.Intn(len(part)):]
			case 1:
				a, b := from.Intn(len(part)), from.Intn(len(part))
				part = part[:a] + part[b:]
			}
			text += part
		}
		s, ok := impl.GetStore(text)
		seen[ok]++
		if ok && (wantedBytes(s) != text || !impl.StoreOk(s)) || !ok && len(s.Blocks) != 0 {
			t.Errorf("%q: %t, %v", text, ok, s)
		}
	}
	if seen[true] < 1000 || seen[false] < 1000 {
		t.Error(seen)
	}
}

// storeAnswers tells every answer of the chapter that has lists.
func storeAnswers(t *testing.T, lines []string, s impl.Store) []impl.Store {
	t.Helper()
	text := impl.PutStore(s)
	if !impl.StoreOk(s) || text != wantedBytes(s) {
		t.Fatalf("%.200q", text)
	}
	got, _ := impl.GetStore(text)
	built, _ := impl.Build(lines, 2)
	more, _ := impl.Build(lines, 60)
	return []impl.Store{got, built, more, {Blocks: []impl.Block{{Lines: impl.LinesOf(s), Bounds: impl.BoundsOf(lines)}}}}
}

// Promise 17: nothing is written into an argument, nor behind it, nothing is kept,
// and what is written into an answer is in no other one and in no argument.
func TestStoresAreNewAndNotWrittenInto(t *testing.T) {
	for many := 1; many <= 7; many++ {
		room := append(numbered(7), "room", "room")
		lines, was := room[:many], slices.Clone(room)
		s := inBlocks(slices.Collect(slices.Chunk(lines, 3))...)
		blocks := append(s.Blocks, impl.Block{Lines: []string{"room"}})
		s.Blocks = blocks[:len(blocks)-1]
		before, answers, after := copyStore(impl.Store{Blocks: blocks}), storeAnswers(t, lines, s), storeAnswers(t, lines, s)
		intact := func() bool { return slices.Equal(room, was) && sameStore(impl.Store{Blocks: blocks}, before) }
		if !intact() {
			t.Errorf("%d lines: an argument is written into", many)
		}
		kept := []impl.Store{}
		for _, answer := range after {
			kept = append(kept, copyStore(answer))
		}
		for i, answer := range answers {
			spoilStore(answer)
			if !intact() || !slices.EqualFunc(after, kept, sameStore) {
				t.Errorf("%d lines: answer %d shares its memory", many, i)
			}
		}
		if again := storeAnswers(t, lines, s); !slices.EqualFunc(again, kept, sameStore) {
			t.Errorf("%d lines: something is kept", many)
		}
	}
}

// spoilStore writes into every list of a store, and behind it.
func spoilStore(s impl.Store) {
	for i, b := range s.Blocks {
		for j := range b.Lines {
			b.Lines[j] = "changed"
		}
		for j := range b.Bounds {
			b.Bounds[j] = strs("changed", "changed")
		}
		_, _ = append(b.Lines, "more", "more"), append(b.Bounds, lacking(), lacking())
		s.Blocks[i] = impl.Block{}
	}
	_ = append(s.Blocks, impl.Block{}, impl.Block{})
}

// No two lists of one answer share memory: what is written into one of them, and
// behind it, is in no other one.
func TestListsOfAStoreShareNothing(t *testing.T) {
	lines := numbered(9)
	built, _ := impl.Build(lines, 2)
	got, _ := impl.GetStore(impl.PutStore(built))
	for _, s := range []impl.Store{built, got} {
		want := copyStore(s)
		for i := range s.Blocks {
			b := s.Blocks[i]
			b.Lines = append(b.Lines, "more", "more")
			b.Bounds = append(b.Bounds, lacking(), lacking())
			for j := range b.Lines {
				b.Lines[j] = "changed"
			}
			for j := range b.Bounds {
				b.Bounds[j] = strs("changed", "changed")
			}
			for j := i + 1; j < len(s.Blocks); j++ {
				if !sameBlock(s.Blocks[j], want.Blocks[j]) {
					t.Errorf("blocks %d and %d share memory", i, j)
				}
			}
		}
	}
	if !slices.Equal(lines, numbered(9)) {
		t.Error("lines are shared with a store")
	}
}

// Many at once put the same store, and each one gets the same text.
func TestPutStoreHangsOnNoOrder(t *testing.T) {
	s := inBlocks(slices.Repeat([][]string{numbered(60), {"a"}, numbered(7)}, 20)...)
	want, group := wantedBytes(s), sync.WaitGroup{}
	for range 16 {
		group.Go(func() {
			for range 20 {
				if impl.PutStore(s) != want {
					t.Error("another text")
				}
			}
		})
	}
	group.Wait()
}

// Every function answers at any arguments, and soon.
func TestStoresAnswerAtAnything(t *testing.T) {
	begin, huge := time.Now(), strings.Repeat("1 ", 1<<22)
	odd := []impl.Store{
		{}, {Blocks: make([]impl.Block, 100000)}, {Blocks: make([]impl.Block, 60)}, {Blocks: []impl.Block{{Lines: make([]string, 1000000)}}}, {Blocks: []impl.Block{{Lines: []string{huge}, Bounds: toEight()}}}, {Blocks: []impl.Block{{Bounds: make([]impl.Bound, 1000000)}}}, {Blocks: slices.Repeat([]impl.Block{{Lines: slices.Repeat([]string{huge}, 60)}}, 60)}, {Blocks: []impl.Block{{Lines: []string{"a"}, Bounds: slices.Repeat([]impl.Bound{{Least: huge, Most: huge, Low: math.MinInt, High: math.MaxInt}}, 8)}}},
	}
	for i, s := range odd {
		if impl.StoreOk(s) != (i == 0) || impl.PutStore(s) != "" || len(impl.LinesOf(s)) != len(slices.Concat(linesOfBlocks(s)...)) {
			t.Error(i)
		}
	}
	for _, size := range []int{math.MinInt, -1, 0, 1, 60, 61, math.MaxInt} {
		checkNoBuild(t, make([]string, 1000000), size)
		checkNoBuild(t, []string{huge}, size)
	}
	for _, s := range []string{huge, huge + "\n", strings.Repeat("\n", 1<<22), strings.Repeat(" ", 1<<22), strings.Repeat("1", 1<<22), strings.Repeat("1 1 852952723\n\n", 100000), "60 " + strings.Repeat("\n", 1<<22), "1 999999999 0\n" + huge, "1 1 1\n" + strings.Repeat("a\n", 1<<21), strings.Repeat("\xff", 1<<22)} {
		checkNoStore(t, s)
	}
	if got := impl.BoundsOf([]string{huge, "2", huge}); !slices.Equal(got, append([]impl.Bound{nums(one, 2*one, "1", "2")}, slices.Repeat([]impl.Bound{nums(0, one, "", "1")}, 7)...)) {
		t.Error(got)
	}
	if got := impl.BoundsOf(make([]string, 100000)); !slices.Equal(got, toEight()) {
		t.Error(got)
	}
	most := inBlocks(slices.Repeat([][]string{slices.Repeat([]string{strings.Repeat("1 ", 1000)}, 60)}, 60)...)
	for range 3 {
		checkGetPut(t, most)
	}
	if time.Since(begin) > time.Minute {
		t.Error(time.Since(begin))
	}
}

func linesOfBlocks(s impl.Store) [][]string {
	lists := [][]string{}
	for _, b := range s.Blocks {
		lists = append(lists, b.Lines)
	}
	return lists
}

// A bound that tells of a block's lines is the same however they are compared: its
// Least and Most by bytes, its Low and High by chapter 3.
func TestBoundsFitTheirValues(t *testing.T) {
	from := rand.New(rand.NewSource(136))
	for range 500 {
		lines := someStoreLines(from, 1+from.Intn(5))
		for i, b := range impl.BoundsOf(lines) {
			vals := []impl.Val{}
			for _, line := range lines {
				v := impl.Val{}
				if words := impl.Words(line); i < len(words) {
					v = impl.FromText(words[i])
				}
				vals = append(vals, v)
			}
			if slices.ContainsFunc(vals, func(v impl.Val) bool { return v.Kind == impl.VStr }) != !b.Nums {
				t.Errorf("%q: %v", lines, b)
			}
			if b.Nums && (impl.NumOf(slices.MinFunc(vals, impl.CompareVal)) != b.Low || impl.NumOf(slices.MaxFunc(vals, impl.CompareVal)) != b.High) {
				t.Errorf("%q: %v", lines, b)
			}
			byText := func(a impl.Val, b impl.Val) int { return cmp.Compare(impl.StrOf(a), impl.StrOf(b)) }
			if impl.StrOf(slices.MinFunc(vals, byText)) != b.Least || impl.StrOf(slices.MaxFunc(vals, byText)) != b.Most {
				t.Errorf("%q: %v", lines, b)
			}
		}
	}
}
