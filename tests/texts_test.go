package tests

import (
	"fmt"
	"math/rand"
	"slices"
	"strings"
	"testing"

	"loop.example/structuredjumps/impl"
)

// kinds are the kinds of items, one byte each.
const kinds = "X?({^.=#"

// A tally is what the functions of texts return; counts go by kinds.
type tally struct {
	blocks   string
	frames   int
	farthest int
	counts   [len(kinds)]int
	once     bool
	number   bool
}

// tallyOf returns what the functions return for a text that must be one with frames.
func tallyOf(t *testing.T, text string) tally {
	t.Helper()
	if !impl.TextValid(text) {
		t.Errorf("TextValid(%q) = false", text)
	}
	blocks, ok := impl.BlocksIn(text)
	if !ok {
		t.Errorf("BlocksIn(%q) returned false", text)
	}
	got := tally{blocks: blocks, frames: impl.FramesIn(text), farthest: impl.FarthestLeave(text), once: impl.EachOnce(text), number: impl.UsesNumber(text)}
	for i := range kinds {
		got.counts[i] = impl.CountItems(text, kinds[i:i+1])
	}
	if leaves := impl.CountLeaves(text); leaves != got.counts[strings.IndexByte(kinds, '^')] {
		t.Errorf("CountLeaves(%q) = %d", text, leaves)
	}
	return got
}

// wantTally checks all functions of a text with frames.
func wantTally(t *testing.T, text string, want tally) {
	t.Helper()
	if got := tallyOf(t, text); got != want {
		t.Errorf("%q: got %+v, want %+v", text, got, want)
	}
}

// wantNoTexts checks all functions of texts that are none with frames.
func wantNoTexts(t *testing.T, texts ...string) {
	t.Helper()
	for _, text := range texts {
		if impl.TextValid(text) {
			t.Errorf("TextValid(%q) = true", text)
		}
		blocks, ok := impl.BlocksIn(text)
		wantText(t, fmt.Sprintf("BlocksIn(%q)", text), blocks, ok, "", false)
		numbers := []int{impl.FramesIn(text), impl.CountLeaves(text), impl.FarthestLeave(text)}
		for _, kind := range strings.Split(kinds, "") {
			numbers = append(numbers, impl.CountItems(text, kind))
		}
		if slices.Min(numbers) != -1 || slices.Max(numbers) != -1 {
			t.Errorf("%q: FramesIn, CountLeaves, FarthestLeave, CountItems = %v", text, numbers)
		}
		if impl.EachOnce(text) || impl.UsesNumber(text) {
			t.Errorf("%q: EachOnce = %v, UsesNumber = %v", text, impl.EachOnce(text), impl.UsesNumber(text))
		}
	}
}

// nested returns a text within n frames that are round and curly in turn.
func nested(n int, text string) string {
	for i := range n {
		ends := [...]string{"()", "{}"}[i%2]
		text = ends[:1] + text + ends[1:]
	}
	return text
}

// brackets returns n brackets with nothing within them.
func brackets(n int) string {
	return strings.Repeat("[]", n)
}

func TestConstantsOfTexts(t *testing.T) {
	if impl.MaxText != 200 || impl.MaxFrames != 9 {
		t.Errorf("MaxText = %d, MaxFrames = %d", impl.MaxText, impl.MaxFrames)
	}
}

func TestTextsOfTheDocument(t *testing.T) {
	for text, want := range map[string]tally{
		"A{?B[C^0][]}D.":                        {"ABCD", 1, 1, [...]int{3, 1, 0, 1, 1, 1, 0, 0}, true, false},
		"A{?B[C^0][D.]}":                        {"ABCD", 1, 1, [...]int{3, 1, 0, 1, 1, 1, 0, 0}, true, false},
		"(?A[B^0][C^0])D.":                      {"ABCD", 1, 1, [...]int{3, 1, 1, 0, 2, 1, 0, 0}, true, false},
		"{#[?A[=1^0][=2^0]][B=2^0][C=1^0]}":     {"ABC", 1, 1, [...]int{2, 1, 0, 1, 4, 0, 4, 1}, true, true},
		"{#[A=1^0][?B[=2^0][=3^0]][C=1^0][D.]}": {"ABCD", 1, 1, [...]int{3, 1, 0, 1, 4, 1, 4, 1}, true, true},
		"(?A[^0][D^0]){BC^0}":                   {"ADBC", 1, 1, [...]int{3, 1, 1, 1, 3, 0, 0, 0}, true, false},
		"((A^1B)C)D":                            {"ABCD", 2, 2, [...]int{4, 0, 2, 0, 1, 0, 0, 0}, true, false},
		"(A^0)D":                                {"AD", 1, 1, [...]int{2, 0, 1, 0, 1, 0, 0, 0}, true, false},
		"?A[][D]{BC^0}":                         {"ADBC", 1, 1, [...]int{3, 1, 0, 1, 1, 0, 0, 0}, true, false},
		"AD":                                    {"AD", 0, 0, [...]int{2, 0, 0, 0, 0, 0, 0, 0}, true, false},
	} {
		wantTally(t, text, want)
	}
}

func TestTextsOfFewItems(t *testing.T) {
	for text, want := range map[string]tally{
		"":        {once: true},
		"A":       {blocks: "A", counts: [...]int{1, 0, 0, 0, 0, 0, 0, 0}, once: true},
		"Z":       {blocks: "Z", counts: [...]int{1, 0, 0, 0, 0, 0, 0, 0}, once: true},
		".":       {counts: [...]int{0, 0, 0, 0, 0, 1, 0, 0}, once: true},
		"..":      {counts: [...]int{0, 0, 0, 0, 0, 2, 0, 0}, once: true},
		"()":      {frames: 1, counts: [...]int{0, 0, 1, 0, 0, 0, 0, 0}, once: true},
		"{}":      {frames: 1, counts: [...]int{0, 0, 0, 1, 0, 0, 0, 0}, once: true},
		"(^0)":    {frames: 1, farthest: 1, counts: [...]int{0, 0, 1, 0, 1, 0, 0, 0}, once: true},
		"{^0}":    {frames: 1, farthest: 1, counts: [...]int{0, 0, 0, 1, 1, 0, 0, 0}, once: true},
		"=0":      {counts: [...]int{0, 0, 0, 0, 0, 0, 1, 0}, once: true, number: true},
		"=9":      {counts: [...]int{0, 0, 0, 0, 0, 0, 1, 0}, once: true, number: true},
		"=1=1":    {counts: [...]int{0, 0, 0, 0, 0, 0, 2, 0}, once: true, number: true},
		"#[]":     {counts: [...]int{0, 0, 0, 0, 0, 0, 0, 1}, once: true, number: true},
		"#[]#[]":  {counts: [...]int{0, 0, 0, 0, 0, 0, 0, 2}, once: true, number: true},
		"?A[][]":  {blocks: "A", counts: [...]int{0, 1, 0, 0, 0, 0, 0, 0}, once: true},
		"A?A[][]": {blocks: "AA", counts: [...]int{1, 1, 0, 0, 0, 0, 0, 0}},
		".A":      {blocks: "A", counts: [...]int{1, 0, 0, 0, 0, 1, 0, 0}, once: true},
	} {
		wantTally(t, text, want)
	}
}

func TestBlocksStandInOrder(t *testing.T) {
	for text, want := range map[string]string{
		"CBA":                         "CBA",
		"ABAB":                        "ABAB",
		"A(B{C}D)E":                   "ABCDE",
		"?C[B][A]D":                   "CBAD",
		"?C[?B[A][]Z][?Y[][X]W]V":     "CBAZYXWV",
		"#[C][B][A]D":                 "CBAD",
		"A.B(^0C)D":                   "ABCD",
		"{?A[(B)][#[C][?D[E][]]]}.=0": "ABCDE",
	} {
		blocks, ok := impl.BlocksIn(text)
		wantText(t, "BlocksIn "+text, blocks, ok, want, true)
	}
}

func TestFramesWithinFrames(t *testing.T) {
	for n := range 10 {
		text := nested(n, "A")
		wantTally(t, text, tally{blocks: "A", frames: n, counts: [...]int{1, 0, (n + 1) / 2, n / 2, 0, 0, 0, 0}, once: true})
		wantTally(t, "B"+text, tally{blocks: "BA", frames: n, counts: [...]int{2, 0, (n + 1) / 2, n / 2, 0, 0, 0, 0}, once: true})
	}
	for n := 10; n <= 100; n++ {
		wantNoTexts(t, nested(n, ""), nested(n, "A"), "A"+nested(n, "")+"B", strings.Repeat("(", n)+strings.Repeat(")", n), strings.Repeat("{", n)+strings.Repeat("}", n))
	}
	for text, want := range map[string]int{
		// Frames behind each other do not lie within each other.
		strings.Repeat("()", 100):                      1,
		"(" + strings.Repeat("{}", 99) + ")":           2,
		nested(9, "") + nested(9, ""):                  9,
		nested(8, strings.Repeat("()", 20)):            9,
		nested(3, "") + nested(5, "") + nested(4, "."): 5,
		"()(())()":   2,
		"((){}({}))": 3,
		// Brackets are no frames, but frames within them are.
		"?A[][]":                              0,
		"#[][#[][#[A]]]":                      0,
		"?A[()][]":                            1,
		"?A[][{}]":                            1,
		"?A[()][({})]":                        2,
		"#[()][({()})]":                       3,
		"(#[(?A[{}][])])":                     3,
		nested(8, "?A["+nested(1, "")+"][]"):  9,
		nested(8, "#[][]["+nested(1, "")+"]"): 9,
		nested(4, "?A[]["+nested(5, "A")+"]"): 9,
	} {
		if got := impl.FramesIn(text); got != want {
			t.Errorf("FramesIn(%q) = %d, want %d", text, got, want)
		}
	}
	wantNoTexts(t, nested(9, "?A[()][]"), nested(9, "?A[][{}]"), nested(9, "#[()]"), nested(9, "#[][()]"), nested(4, "?A[]["+nested(6, "")+"]"))
}

func TestStepsAndTheFramesAroundThem(t *testing.T) {
	for n := range 10 {
		for k := range 10 {
			step := fmt.Sprintf("^%d", k)
			for _, text := range []string{
				nested(n, step), nested(n, "?A["+step+"][]"), nested(n, "?A[]["+step+"]"), nested(n, "#["+step+"]"), nested(n, "#[]["+step+"]"),
				nested(n, "#[?A[]["+step+"]]"), nested(n, "A"+step+"B"),
			} {
				if k >= n {
					wantNoTexts(t, text)
					continue
				}
				if got := tallyOf(t, text); got.counts[4] != 1 || got.farthest != k+1 || got.frames != n {
					t.Errorf("%q: %+v", text, got)
				}
			}
		}
	}
	// Frames that have ended, or have not begun, are not around a step.
	wantNoTexts(t, "^0", "()^0", "^0()", "A^0", "(()^1)", "(^1())", "({})^0", "{()^1()}", "?A[()^0][]", "?A[(][^0)]", "(?A[()^1][])", "(A)(^1)", "?A[()][^0]", "#[()][^0]")
	wantNoTexts(t, "(^)", "(^", "^", "(^A)", "(^^0)", "(^00)", "(^-1)", "(^ 0)", "(^0", "^0)", "{^a}", "{^:}", "{^/}", "(^\x000)", "(^\xb0)", "(^"+string([]rune{0x660})+")")
}

func TestFarthestLeave(t *testing.T) {
	for text, want := range map[string]int{
		"(A(B(C^2)D)E)F.": 3, "(A(B(C)^1D)E^0)F.": 2, "((^0^1^0))": 2, "((^1)^0)": 2, "(^0(^0(^0)))": 1, "(?A[(^0)][(^1)])": 2, "(#[^0][{^1}][])": 2,
		"AB": 0, "()": 0, "=7": 0, "#[A][B]": 0, nested(9, "^8"): 9, nested(9, "^3"): 4,
	} {
		if got := impl.FarthestLeave(text); got != want {
			t.Errorf("FarthestLeave(%q) = %d, want %d", text, got, want)
		}
	}
	for text, want := range map[string]int{"(A(B(C^2)D)E)F.": 1, "((^0^1^0))": 3, "(^0(^0(^0)))": 3, "(?A[^0][^0]^0#[^0][^0])": 5, "A": 0, "": 0} {
		if got := impl.CountLeaves(text); got != want {
			t.Errorf("CountLeaves(%q) = %d, want %d", text, got, want)
		}
	}
}

func TestBrackets(t *testing.T) {
	for n := 1; n <= 10; n++ {
		wantTally(t, "#"+brackets(n), tally{counts: [...]int{0, 0, 0, 0, 0, 0, 0, 1}, once: true, number: true})
		wantTally(t, "#"+brackets(n)+"A", tally{blocks: "A", counts: [...]int{1, 0, 0, 0, 0, 0, 0, 1}, once: true, number: true})
		wantTally(t, "#["+"#"+brackets(n)+"]"+brackets(9), tally{counts: [...]int{0, 0, 0, 0, 0, 0, 0, 2}, once: true, number: true})
		wantTally(t, "?A[#"+brackets(n)+"][]", tally{blocks: "A", counts: [...]int{0, 1, 0, 0, 0, 0, 0, 1}, once: true, number: true})
		wantNoTexts(t, "A"+brackets(n), "(A"+brackets(n)+")", brackets(n), "."+brackets(n), "=1"+brackets(n), "(^0"+brackets(n)+")", "()"+brackets(n))
		if n != 2 {
			wantNoTexts(t, "?A"+brackets(n), "(?A"+brackets(n)+")", "?A"+brackets(n)+"B")
		}
	}
	for n := 11; n <= 30; n++ {
		wantNoTexts(t, "#"+brackets(n), "#"+brackets(n)+"A", "(#"+brackets(n)+")", "#[#"+brackets(n)+"]")
	}
	ten := "#[A][B][C][D][E][F][G][H][I][J]"
	wantTally(t, ten, tally{blocks: "ABCDEFGHIJ", counts: [...]int{10, 0, 0, 0, 0, 0, 0, 1}, once: true, number: true})
	wantNoTexts(t, ten+"[K]", ten+"[]", ten+"[", ten+"]")
	wantNoTexts(t, "#", "#A", "#A[]", "#1", "#1[]", "#.", "#()", "##[]", "#[", "#]", "#[][", "#[]]", "#[][]]", "#[A", "#[A]B]", "(#)", "#[#]", "(#[)]", "#[(])", "# []", "#[] []")
}

func TestItemsThatAsk(t *testing.T) {
	for _, text := range []string{"?A[][]", "?A[B][]", "?A[][B]", "?A[?B[][]][?C[][]]", "?A[.][(=1)]", "?A[][]B", "?A[][]?B[][]", "?A[][]#[]", "?Z[#[]][]", "({?A[^0][^1]})"} {
		tallyOf(t, text)
	}
	wantNoTexts(t, "?", "?A", "?A[", "?A[]", "?A[][", "?A[[]][]", "?A[]B[]", "?A[] []", "?A []", "?A[][]]", "?A[][[]", "?[][]", "?.[][]", "?a[][]", "??A[][]", "?AB[][]", "?(A)[][]", "?1[][]",
		"?@[][]", "?[[][]", "?\xc1[][]", "?A()()", "?A[)(]", "?A[(])[]", "(?A[)][]", "?A[(][)]", "A?", "(?)", "?A]][[", "?A[?B[][]", "?A[?B[]][]", "?A[B][C][D]")
}

func TestItemsThatSet(t *testing.T) {
	for digit := range 10 {
		text := fmt.Sprintf("=%d", digit)
		for _, text := range []string{text, "(" + text + ")", "?A[" + text + "][]", "A" + text + "B", "#[][" + text + "]"} {
			if got := tallyOf(t, text); got.counts[6] != 1 || !got.number || got.farthest != 0 {
				t.Errorf("%q: %+v", text, got)
			}
		}
	}
	wantNoTexts(t, "=", "=A", "A=", "(=)", "{=}", "?A[=][]", "#[=]", "==1", "=-1", "=+1", "= 1", "=10", "=00", "=1 ", "=/", "=:", "=.", "=^", "(=^0)", "=\x00", "=\xb1", "=x", "=#[]", "="+string([]rune{0xb2}))
}

func TestEndsThatDoNotFit(t *testing.T) {
	wantNoTexts(t, "(", ")", "{", "}", "[", "]", "A(", "A)", "(A", "(A}", "{A)", "(A]", "[A]", "[A)", "({)}", "{(})", ")(", "}{", "(()", "())", "{{}", "{}}", "A.)", "(A))", "((A)", "A]", "?A[}][]", "(?A[][)]", "(#[)]", "{#[}]")
}

func TestBytesThatAreNoItem(t *testing.T) {
	for b := range 256 {
		one := string([]byte{byte(b)})
		if strings.Contains(alphabet+".", one) {
			tallyOf(t, one)
			continue
		}
		wantNoTexts(t, one, "A"+one)
		if strings.Contains("^=#?", one) {
			continue
		}
		wantNoTexts(t, one+"A", "A"+one+"B", "("+one+"A)", "?A["+one+"A][]", "#[]["+one+"A]", "?"+one+"[][]")
	}
	wantNoTexts(t, "a", "A B", "A\n", "\nA", "A\x00", "Ä", "A,B", "A>B", "A>B,B.", "\xff", string([]rune{0x10400}), string([]rune{0xff21}), "A;", "<A>", "0", "A1")
}

func TestLengthsOfTexts(t *testing.T) {
	long := strings.Repeat("A", 198)
	wantTally(t, long+"AA", tally{blocks: long + "AA", counts: [...]int{200, 0, 0, 0, 0, 0, 0, 0}})
	wantTally(t, "("+long+")", tally{blocks: long, frames: 1, counts: [...]int{198, 0, 1, 0, 0, 0, 0, 0}})
	wantTally(t, "=0"+long, tally{blocks: long, counts: [...]int{198, 0, 0, 0, 0, 0, 1, 0}, number: true})
	wantTally(t, strings.Repeat("(^0)", 50), tally{frames: 1, farthest: 1, counts: [...]int{0, 0, 50, 0, 50, 0, 0, 0}, once: true})
	wantNoTexts(t, long+"AAA", long+"A()", long+"A=0", "("+long+"A)", strings.Repeat("(^0)", 50)+".", strings.Repeat(".", 201), "?A["+long+"][]", "#["+long+"]")
	wantNoTexts(t, long+"(A", long+"A)", long+"=")
	// Brackets may lie within each other as deep as the length lets them.
	for open, end := range map[string]string{"#[": "]", "?A[": "][]", "?A[][": "]", "#[][": "]"} {
		most := 200 / len(open+end)
		for n := range most + 1 {
			text := strings.Repeat(open, n) + strings.Repeat(end, n)
			if got := tallyOf(t, text); got.frames != 0 || got.counts[1]+got.counts[7] != n {
				t.Errorf("%q: %+v", text, got)
			}
			wantNoTexts(t, open+text, text+end)
		}
		wantNoTexts(t, strings.Repeat(open, most+1)+strings.Repeat(end, most+1))
	}
	for _, open := range []string{"(", "{", "[", "?A[", "#[", "A", ".", "^", "=", "?", "#", ")", "()", "=1", "#[]", "?A[][]"} {
		wantNoTexts(t, strings.Repeat(open, 300000))
	}
}

func TestKinds(t *testing.T) {
	text := "A{?B[C^0][]}D.(=1#[])"
	for i, want := range []int{3, 1, 1, 1, 1, 1, 1, 1} {
		if got := impl.CountItems(text, kinds[i:i+1]); got != want {
			t.Errorf("CountItems(%q, %q) = %d, want %d", text, kinds[i:i+1], got, want)
		}
	}
	bad := []string{"", "A", "B", "Z", "x", "XX", "X?", "?X", "({", "()", ")", "}", "[", "]", "0", "=1", "^0", " ", "X ", " X", "\x00", "\xd8", kinds, strings.Repeat("X", 100000)}
	for b := range 256 {
		if one := string([]byte{byte(b)}); !strings.Contains(kinds, one) {
			bad = append(bad, one)
		}
	}
	for _, kind := range bad {
		for _, text := range []string{text, "", "A", "A("} {
			if got := impl.CountItems(text, kind); got != -1 {
				t.Errorf("CountItems(%q, %q) = %d, want -1", text, kind, got)
			}
		}
	}
}

func TestNamesThatStandTwice(t *testing.T) {
	for _, text := range []string{"", "A", "AB", "?A[B][C]", "(A)(B)", "#[A][B]", alphabet, "({^0})", "=1=1", "..", "?Z[" + alphabet[:25] + "][]"} {
		if !impl.EachOnce(text) {
			t.Errorf("EachOnce(%q) = false", text)
		}
	}
	for _, text := range []string{"AA", "ABA", "A(A)", "?A[A][]", "?A[][A]", "?A[B][B]", "?A[][]A", "A?A[][]", "#[A][A]", "(A){A}", alphabet + "A", alphabet + "Z", "A.A", "BAC?D[][?A[][]]", "A(", "A)", "^0", "a"} {
		if impl.EachOnce(text) {
			t.Errorf("EachOnce(%q) = true", text)
		}
	}
}

func TestTextsThatUseTheNumber(t *testing.T) {
	for _, text := range []string{"=0", "=9", "#[]", "A=1", "(=1)", "{#[A]}", "?A[=2][]", "?A[][#[]]", ".=0", "({(=3)})", "#[=1]"} {
		if !impl.UsesNumber(text) {
			t.Errorf("UsesNumber(%q) = false", text)
		}
	}
	for _, text := range []string{"", "A", "(^0)", "?A[B][C].", "=", "#", "=1(", "#[]]", "=a", "A=1)", strings.Repeat("=1", 101)} {
		if impl.UsesNumber(text) {
			t.Errorf("UsesNumber(%q) = true", text)
		}
	}
}

// A span is what a text with so many frames around it may be.
type span struct {
	text   string
	frames int
}

// plainTexts tell by the plain definition whether spans are any number of items, and remember those that were asked for.
type plainTexts map[span]bool

// isItems reports whether a text is any number of items within so many frames.
func (p plainTexts) isItems(text string, frames int) bool {
	is, known := p[span{text, frames}]
	if known {
		return is
	}
	is = text == ""
	for i := 1; i <= len(text) && !is; i++ {
		is = p.isItem(text[:i], frames) && p.isItems(text[i:], frames)
	}
	p[span{text, frames}] = is
	return is
}

// isItem reports whether a text is one item within so many frames.
func (p plainTexts) isItem(text string, frames int) bool {
	n := len(text)
	switch {
	case n == 1:
		return strings.Contains(alphabet+".", text)
	case text[0] == '^' || text[0] == '=':
		return n == 2 && text[1] >= '0' && text[1] <= '9' && (text[0] == '=' || int(text[1]-'0') < frames)
	case text[0] == '(' && text[n-1] == ')' || text[0] == '{' && text[n-1] == '}':
		return frames < 9 && p.isItems(text[1:n-1], frames+1)
	case text[0] == '?':
		return strings.Contains(alphabet, text[1:2]) && p.isBrackets(text[2:], 2, frames)
	case text[0] == '#':
		for count := 1; count <= 10; count++ {
			if p.isBrackets(text[1:], count, frames) {
				return true
			}
		}
	}
	return false
}

// isBrackets reports whether a text is so many brackets within so many frames.
func (p plainTexts) isBrackets(text string, count int, frames int) bool {
	if text == "" || count == 0 {
		return text == "" && count == 0
	}
	for i := 1; i < len(text) && text[0] == '['; i++ {
		if text[i] == ']' && p.isItems(text[1:i], frames) && p.isBrackets(text[i+1:], count-1, frames) {
			return true
		}
	}
	return false
}

// plainTally returns the tally of a text with frames, which its bytes tell without what lies within what.
func plainTally(text string) tally {
	want := tally{once: true}
	depth := 0
	for i, b := range []byte(text) {
		if kind := strings.IndexByte(kinds[1:], b); kind >= 0 {
			want.counts[kind+1]++
		}
		switch b {
		case '(', '{':
			depth++
			want.frames = max(want.frames, depth)
		case ')', '}':
			depth--
		case '^':
			want.farthest = max(want.farthest, int(text[i+1]-'0')+1)
		case '=', '#':
			want.number = true
		default:
			if b >= 'A' && b <= 'Z' {
				want.once = want.once && strings.IndexByte(want.blocks, b) < 0
				want.blocks += string(rune(b))
			}
		}
	}
	want.counts[0] = len(want.blocks) - want.counts[1]
	return want
}

// checkPlain checks all functions of a text of at most 200 bytes by the plain definition, and returns whether it is one with frames.
func checkPlain(t *testing.T, text string) bool {
	t.Helper()
	if !(plainTexts{}).isItems(text, 0) {
		if impl.TextValid(text) {
			t.Errorf("TextValid(%q) = true", text)
		}
		return false
	}
	wantTally(t, text, plainTally(text))
	return true
}

func TestAllShortTexts(t *testing.T) {
	for bytes, length := range map[string]int{"A?[]": 8, "#[]A": 8, "A(){}^01": 6, "#[]=1A?": 6, "A(#[])^0": 6, "(?A[])^0B": 5} {
		valid, seen := 0, 0
		texts := []string{""}
		for range length + 1 {
			var longer []string
			for _, text := range texts {
				seen++
				if checkPlain(t, text) {
					valid++
				}
				for _, b := range strings.Split(bytes, "") {
					longer = append(longer, text+b)
				}
			}
			texts = longer
		}
		if valid < 20 || valid > seen/2 {
			t.Errorf("of %d texts of %q, %d are some with frames", seen, bytes, valid)
		}
	}
}

// someItems returns any number of items within so many frames, of about as many bytes as told, that a source of numbers tells.
func someItems(source *rand.Rand, size int, frames int) string {
	text := ""
	for len(text) < size {
		text += someItem(source, size-len(text), frames)
	}
	return text
}

// someItem returns one item, likewise.
func someItem(source *rand.Rand, size int, frames int) string {
	name := alphabet[source.Intn(26):][:1]
	inner := func(frames int) string { return someItems(source, source.Intn(size+1)/2, frames) }
	switch kind := source.Intn(12); {
	case kind < 3 && frames < 9:
		ends := [...]string{"()", "{}"}[source.Intn(2)]
		return ends[:1] + someItems(source, source.Intn(size+1), frames+1) + ends[1:]
	case kind < 5:
		return "?" + name + "[" + inner(frames) + "][" + inner(frames) + "]"
	case kind < 6:
		text := "#"
		for range 1 + source.Intn(10) {
			text += "[" + someItems(source, source.Intn(4), frames) + "]"
		}
		return text
	case kind < 8 && frames > 0:
		return fmt.Sprintf("^%d", source.Intn(frames))
	case kind < 9:
		return fmt.Sprintf("=%d", source.Intn(10))
	case kind < 10:
		return "."
	}
	return name
}

// changed returns a text in which one byte is left out, put in or put in place of another one.
func changed(source *rand.Rand, text string) string {
	at := source.Intn(len(text))
	bytes := "AZ?[](){}^0189=#.a "
	b := string(bytes[source.Intn(len(bytes))])
	switch source.Intn(3) {
	case 0:
		return text[:at] + text[at+1:]
	case 1:
		return text[:at] + b + text[at:]
	}
	return text[:at] + b + text[at+1:]
}

func TestLargerTexts(t *testing.T) {
	source := rand.New(rand.NewSource(5))
	long, deep, still := 0, 0, 0
	for range 20000 {
		text := someItems(source, source.Intn(180), 0)
		if len(text) > 200 {
			long++
			wantNoTexts(t, text)
			continue
		}
		want := plainTally(text)
		wantTally(t, text, want)
		if want.frames >= 5 {
			deep++
		}
	}
	for range 10000 {
		text := changed(source, someItems(source, 1+source.Intn(40), source.Intn(2)))
		if len(text) <= 60 && checkPlain(t, text) {
			still++
		}
	}
	if long < 100 || deep < 1000 || still < 500 {
		t.Errorf("%d texts are too long, %d have frames within frames, %d are some though they were changed", long, deep, still)
	}
}

func TestTextsKeepNoState(t *testing.T) {
	for range 2 {
		wantTally(t, "(^0)A", tally{blocks: "A", frames: 1, farthest: 1, counts: [...]int{1, 0, 1, 0, 1, 0, 0, 0}, once: true})
		wantNoTexts(t, "((((A", "^0")
		wantTally(t, "", tally{once: true})
	}
}
