package tests

import (
	"fmt"
	"math/rand"
	"slices"
	"strings"
	"testing"
	"testing/synctest"

	"loop.example/structuredjumps/impl"
)

// wantTextRun checks one run of a text with frames, and the number at its end.
func wantTextRun(t *testing.T, text string, choices string, trace string, end int, number int) {
	t.Helper()
	got, gotEnd, ok := impl.RunText(text, choices)
	if got != trace || gotEnd != end || !ok {
		t.Errorf("RunText(%q, %q) = %q, %d, %v; want %q, %d, true", text, choices, got, gotEnd, ok, trace, end)
	}
	if got := impl.NumberIn(text, choices); got != number {
		t.Errorf("NumberIn(%q, %q) = %d, want %d", text, choices, got, number)
	}
	if got, want := impl.EndsSilently(text, choices), end == impl.EndLong && len(trace) < 60; got != want {
		t.Errorf("EndsSilently(%q, %q) = %v", text, choices, got)
	}
}

// A textRun is a run of a text that never uses the number.
type textRun struct {
	text, choices, trace string
	end                  int
}

// wantTextRuns checks some runs of texts that never use the number.
func wantTextRuns(t *testing.T, runs ...textRun) {
	t.Helper()
	for _, r := range runs {
		wantTextRun(t, r.text, r.choices, r.trace, r.end, 0)
	}
}

// wantNoTextRuns checks the functions of runs for texts and choices of which one is not valid.
func wantNoTextRuns(t *testing.T, text string, choices string) {
	t.Helper()
	if trace, end, ok := impl.RunText(text, choices); trace != "" || end != 0 || ok {
		t.Errorf("RunText(%.300q, %.30q) = %q, %d, %v", text, choices, trace, end, ok)
	}
	if number := impl.NumberIn(text, choices); number != -1 {
		t.Errorf("NumberIn(%.300q, %.30q) = %d", text, choices, number)
	}
	if impl.EndsSilently(text, choices) {
		t.Errorf("EndsSilently(%.300q, %.30q) = true", text, choices)
	}
}

// wantOther checks FirstOther and SameRuns of a graph and a text that are valid; other is - if there are no choices.
func wantOther(t *testing.T, g []impl.Block, text string, other string) {
	t.Helper()
	call := fmt.Sprintf("FirstOther(%q, %q)", impl.FormatGraph(g), text)
	got, ok := impl.FirstOther(g, text)
	wantText(t, call, got, ok, strings.Trim(other, "-"), other != "-")
	if same := impl.SameRuns(g, text); same != (other == "-") {
		t.Errorf("SameRuns(%q, %q) = %v", impl.FormatGraph(g), text, same)
	}
}

// wantSameTexts checks SameTexts both ways.
func wantSameTexts(t *testing.T, a string, b string, want bool) {
	t.Helper()
	if got := impl.SameTexts(a, b); got != want {
		t.Errorf("SameTexts(%q, %q) = %v", a, b, got)
	}
	if got := impl.SameTexts(b, a); got != want {
		t.Errorf("SameTexts(%q, %q) = %v", b, a, got)
	}
}

func TestConstantsOfTextRuns(t *testing.T) {
	if impl.MaxIdle != 4000 || impl.MaxShort != 6 {
		t.Errorf("MaxIdle = %d, MaxShort = %d", impl.MaxIdle, impl.MaxShort)
	}
}

func TestTextRunsOfTheDocument(t *testing.T) {
	text := "A{?B[C^0][]}D."
	wantTextRuns(t, []textRun{
		{text, "lr", "ABCBD", impl.EndStop}, {text, "", "AB", impl.EndAsk}, {text, "r", "ABD", impl.EndStop}, {text, "l", "ABCB", impl.EndAsk}, {text, "ll", "ABCBCB", impl.EndAsk},
		{text, strings.Repeat("l", 20), "AB" + strings.Repeat("CB", 20), impl.EndAsk},
		{text, strings.Repeat("l", 19) + "r", "AB" + strings.Repeat("CB", 19) + "D", impl.EndStop},
		{"(?A[B^0][C^0])D.", "l", "ABD", impl.EndStop}, {"(?A[B^0][C^0])D.", "r", "ACD", impl.EndStop},
		{"((A^1B)C)D", "", "AD", impl.EndStop}, {"(A^0)D", "", "AD", impl.EndStop},
		{"?A[][D]{BC^0}", "r", "AD" + strings.Repeat("BC", 29), impl.EndLong},
	}...)
}

func TestItemsAreDoneInOrder(t *testing.T) {
	for text, want := range map[string]string{
		"": "", "A": "A", "AB": "AB", "BA": "BA", "AAB": "AAB", "()": "", "{}": "", "(A)B": "AB", "{A}B": "AB", "A(B{C}D)E": "ABCDE", "({({})})A": "A",
		alphabet: alphabet, "=1A": "A", "#[]A": "A", nested(9, "A") + "B": "AB",
		// Behind the end of a frame the run goes on behind it, whichever it is.
		"{A}{B}(C)(D)": "ABCD", "{{A}B}C": "ABC", "((A)B)C": "ABC",
	} {
		trace, end, ok := impl.RunText(text, "")
		if trace != want || end != impl.EndStop || !ok {
			t.Errorf("RunText(%q) = %q, %d, %v", text, trace, end, ok)
		}
		trace, end, ok = impl.RunText(text+".Z", "lr")
		if trace != want || end != impl.EndStop || !ok {
			t.Errorf("RunText(%q) = %q, %d, %v", text+".Z", trace, end, ok)
		}
	}
}

func TestStopsWithinItems(t *testing.T) {
	for _, text := range []string{
		"A.B", "A.", "A", "(A.B)C", "{A.B}C", "A(.)B", "A({(.)})B", "A#[.]B", "A#[{.}B][C]D", "A(.{^0})", "{A.^0}", "({A.^1}B)C", "A..", "A" + nested(9, ".") + "B",
	} {
		wantTextRun(t, text, "", "A", impl.EndStop, 0)
		wantTextRun(t, text, "l", "A", impl.EndStop, 0)
	}
	wantTextRuns(t, []textRun{
		{"?A[.B][C]D", "l", "A", impl.EndStop}, {"?A[.B][C]D", "r", "ACD", impl.EndStop}, {"?A[B][.C]D", "r", "A", impl.EndStop}, {"?A[B][.C]D", "l", "ABD", impl.EndStop},
		{"({?A[^0][(.)]})B", "llr", "AAA", impl.EndStop}, {".A", "", "", impl.EndStop}, {".", "l", "", impl.EndStop}, {".?A[][]", "", "", impl.EndStop},
	}...)
}

func TestFramesThatAreLeft(t *testing.T) {
	wantTextRuns(t, []textRun{
		{"(A^0B)C", "", "AC", impl.EndStop}, {"((A^0B)C)D", "", "ACD", impl.EndStop}, {"((A^1B)C)D", "", "AD", impl.EndStop},
		{"(((A^0B)C)D)E", "", "ACDE", impl.EndStop}, {"(((A^1B)C)D)E", "", "ADE", impl.EndStop}, {"(((A^2B)C)D)E", "", "AE", impl.EndStop},
		{"((A^0B^0C)D^0E)F", "", "ADF", impl.EndStop}, {"(A(B)^0C)D", "", "ABD", impl.EndStop}, {"(^0)A", "", "A", impl.EndStop}, {"(^0)", "", "", impl.EndStop},
		// Frames of the other kind in between are left too, and do not begin anew.
		{"({A^1B}C)D", "", "AD", impl.EndStop}, {"({{A^2B}C}D)E", "", "AE", impl.EndStop}, {"({({A^3})})B", "", "AB", impl.EndStop}, {"({(A^0B)C}D)E", "", "ACDE", impl.EndStop},
		// Brackets are no frames.
		{"(?A[^0][B^0]C)D", "l", "AD", impl.EndStop}, {"(?A[^0][B^0]C)D", "r", "ABD", impl.EndStop}, {"(?A[?B[^0][]][]C)D", "ll", "ABD", impl.EndStop}, {"(?A[?B[^0][]][]C)D", "lr", "ABCD", impl.EndStop},
		{"(#[#[A^0]B]C)D", "", "AD", impl.EndStop}, {"((?A[^0][^1])B.)C.", "l", "AB", impl.EndStop}, {"((?A[^0][^1])B.)C.", "r", "AC", impl.EndStop},
		// A frame that has been left may be come to again.
		{"{(?A[^0][^1])B.}", "rrl", "AAAB", impl.EndStop}, {"{(?A[^0][B])^0}C", "lrl", "AABAA", impl.EndAsk},
	}...)
	for n := 1; n <= 9; n++ {
		for k := range n {
			// Around the step and behind each frame stands one block; the frame that is left is followed by those further out.
			text, want := fmt.Sprintf("A^%d", k), "A"
			for i := range n {
				text = "(" + text + ")" + alphabet[i+1:i+2]
				if i >= k {
					want += alphabet[i+1 : i+2]
				}
			}
			wantTextRun(t, text, "", want, impl.EndStop, 0)
		}
	}
}

func TestFramesThatBeginAnew(t *testing.T) {
	wantTextRuns(t, []textRun{
		{"{A^0B}C", "", strings.Repeat("A", 60), impl.EndLong}, {"A{B^0}C", "", "A" + strings.Repeat("B", 59), impl.EndLong}, {"{A{B^1}C}D", "", strings.Repeat("AB", 30), impl.EndLong},
		{"{A{B^0}C}D", "", "A" + strings.Repeat("B", 59), impl.EndLong}, {"{A(B^1)C}D", "", strings.Repeat("AB", 30), impl.EndLong}, {"{A(B^0C)D^0}", "", strings.Repeat("ABD", 20), impl.EndLong},
		{"{A({(B^3)})C}D", "", strings.Repeat("AB", 30), impl.EndLong}, {"({A^1}B)C", "", "AC", impl.EndStop}, {"{({A^1}B)C^0}", "", strings.Repeat("AC", 30), impl.EndLong},
		{"{?A[^0][]B}C", "llr", "AAABC", impl.EndStop}, {"{?A[][^0]B}C", "rrl", "AAABC", impl.EndStop}, {"{?A[B^0][]}C", "lr", "ABAC", impl.EndStop},
		{"{{?A[^1][^0]}}", "lr", "AAA", impl.EndAsk}, {"{X{?A[^1][^0]}Y}Z", "rrlr", "XAAAXAA", impl.EndAsk}, {"{X{?A[^1][]}Y}Z", "llr", "XAXAXAYZ", impl.EndStop},
		{"{X(?A[^1][^0]Y)Z?B[^0][]}W", "lrlllrr", "XAXAZBXAXAXAZBW", impl.EndStop}, {"{#[?A[^0][]]}B", "lr", "AAB", impl.EndStop},
		{"{A?B[?C[^0][]D][]E}F", "lllr", "ABCABCDEF", impl.EndStop},
	}...)
	for n := 1; n <= 9; n++ {
		for k := range n {
			// Ahead of the step, in each frame, stands one block; the frame that is meant is followed by those further in.
			text, once, again := "", "", ""
			for i := range n {
				text += "{" + alphabet[i:i+1]
				once += alphabet[i : i+1]
				if i >= n-1-k {
					again += alphabet[i : i+1]
				}
			}
			want := once
			for len(want) < 60 {
				want += again
			}
			wantTextRun(t, text+fmt.Sprintf("^%d", k)+strings.Repeat("}", n), "", want[:60], impl.EndLong, 0)
		}
	}
}

func TestChoicesOfTexts(t *testing.T) {
	wantTextRuns(t, []textRun{
		{"?A[B][C]", "", "A", impl.EndAsk}, {"?A[B][C]", "l", "AB", impl.EndStop}, {"?A[B][C]", "r", "AC", impl.EndStop}, {"?A[B][C]", "lr", "AB", impl.EndStop},
		{"?A[][]", "", "A", impl.EndAsk}, {"?A[][]", "l", "A", impl.EndStop}, {"?A[][]", "r", "A", impl.EndStop}, {"?A[.][.]", "", "A", impl.EndAsk}, {"?A[B][B]C", "", "A", impl.EndAsk},
		{"?A[?B[][C]][?D[E][]]F", "l", "AB", impl.EndAsk}, {"?A[?B[][C]][?D[E][]]F", "lr", "ABCF", impl.EndStop}, {"?A[?B[][C]][?D[E][]]F", "rl", "ADEF", impl.EndStop}, {"?A[?B[][C]][?D[E][]]F", "rr", "ADF", impl.EndStop},
		{"?A[][]?B[C][D]", "ll", "ABC", impl.EndStop}, {"?A[][]?B[C][D]", "lr", "ABD", impl.EndStop}, {"?A[][]?B[C][D]", "r", "AB", impl.EndAsk}, {"(?A[][])", "", "A", impl.EndAsk}, {"{?A[][^0]}", "", "A", impl.EndAsk},
		{"{?A[^0][]}", strings.Repeat("l", 20), strings.Repeat("A", 21), impl.EndAsk}, {"{?A[^0][]}", strings.Repeat("l", 19) + "r", strings.Repeat("A", 20), impl.EndStop},
		{"A", strings.Repeat("l", 20), "A", impl.EndStop}, {"", strings.Repeat("r", 20), "", impl.EndStop},
	}...)
}

func TestNumbers(t *testing.T) {
	const stop, ask, long = impl.EndStop, impl.EndAsk, impl.EndLong
	for _, r := range []struct {
		text, choices, trace string
		end, number          int
	}{
		{"=3#[A][B]C.", "", "C", stop, 3}, {"=1#[A][B]C.", "", "BC", stop, 1}, {"#[A][B]C.", "", "AC", stop, 0}, {"=0#[A][B]C.", "", "AC", stop, 0}, {"=2#[A][B]C.", "", "C", stop, 2},
		{"{#[A=1^0][?B[=2^0][=3^0]][C=1^0][D.]}", "lr", "ABCBD", stop, 3}, {"{#[A=1^0][?B[=2^0][=3^0]][C=1^0][D.]}", "l", "ABCB", ask, 1}, {"{#[A=1^0][?B[=2^0][=3^0]][C=1^0][D.]}", "", "AB", ask, 1},
		{"{#[?A[=1^0][=2^0]][B=2^0][C=1^0]}", "l", "A" + strings.Repeat("BC", 29) + "B", long, 2}, {"{#[?A[=1^0][=2^0]][B=2^0][C=1^0]}", "r", "A" + strings.Repeat("CB", 29) + "C", long, 1},
		{"=1=2=3", "", "", stop, 3}, {"=5.=6", "", "", stop, 5}, {"(=5^0=6)", "", "", stop, 5}, {"?A[=5][=6]", "", "A", ask, 0}, {"?A[=5][=6]", "l", "A", stop, 5}, {"?A[=5][=6]", "r", "A", stop, 6}, {"=7?A[=5][=6]", "", "A", ask, 7},
		// A bracket is chosen by the number ahead of it, and no other one is done though the number changes.
		{"#[=1][A]", "", "", stop, 1}, {"#[=1A][=2B][=3C]", "", "A", stop, 1}, {"#[=1][B]#[C][D]", "", "D", stop, 1}, {"=1#[A][=0B][C]#[D][E]", "", "BD", stop, 0},
		// A frame does not set the number back, whether it is left or begun anew.
		{"(=4)A", "", "A", stop, 4}, {"(=4^0)A", "", "A", stop, 4}, {"{#[=1A^0][=2B^0][=3C^0]D}", "", "ABCD", stop, 3}, {"{#[=1A^0][]D}#[E][F]", "", "ADF", stop, 1},
		// A begins the outer frame anew with 1, B leaves the inner one with 2, and C and X are done again and again behind it.
		{"{(#[=1A^1][=2B^0][C]X)#[Y][Z^0][^0]}", "", "AB" + strings.Repeat("CX", 29), long, 2},
	} {
		wantTextRun(t, r.text, r.choices, r.trace, r.end, r.number)
	}
	for digit := range 10 {
		for n := 1; n <= 10; n++ {
			text := fmt.Sprintf("=%d#", digit)
			for i := range n {
				text += "[" + alphabet[i:i+1] + "]"
			}
			want := ""
			if digit < n {
				want = alphabet[digit : digit+1]
			}
			wantTextRun(t, text, "", want, stop, digit)
			wantTextRun(t, text+"Z", "", want+"Z", stop, digit)
		}
	}
}

func TestAroundTheSixtiethBlockOfTexts(t *testing.T) {
	many := strings.Repeat("AB", 30)
	for n := 58; n <= 60; n++ {
		lead := many[:n]
		for text, more := range map[string]string{"": "", ".": "", "()": "", "(^0).": "", "#[.]C": "", "C": "C", "C.": "C", "CD": "CD", "CDE": "CDE", "(C)": "C", "{CD.^0}": "CD", "=1C": "C"} {
			trace, end := lead+more, impl.EndStop
			if len(trace) > 60 {
				trace, end = trace[:60], impl.EndLong
			}
			got, gotEnd, ok := impl.RunText(lead+text, "")
			if got != trace || gotEnd != end || !ok || impl.EndsSilently(lead+text, "") {
				t.Errorf("RunText(%q) = %q, %d, %v", lead+text, got, gotEnd, ok)
			}
		}
	}
	wantTextRuns(t, []textRun{
		// The sixtieth block asks.
		{many[:59] + "?C[][]", "", many[:59] + "C", impl.EndAsk}, {many[:59] + "?C[][]", "l", many[:59] + "C", impl.EndStop},
		{many[:59] + "?C[D][]", "l", many[:59] + "C", impl.EndLong}, {many[:59] + "?C[D][]", "r", many[:59] + "C", impl.EndStop}, {many[:59] + "?C[][]D", "r", many[:59] + "C", impl.EndLong},
		// The sixty-first one would ask.
		{many + "?C[][]", "", many, impl.EndLong}, {many + "?C[][]", "l", many, impl.EndLong},
		// What goes on forever without a block is silent only with fewer than sixty blocks.
		{many[:58] + "{^0}", "", many[:58], impl.EndLong}, {many[:59] + "{^0}", "", many[:59], impl.EndLong}, {many + "{^0}", "", many, impl.EndLong},
	}...)
	// The number at the end is that ahead of the block that is not done.
	wantTextRun(t, many+"=5C=6", "", many, impl.EndLong, 5)
	wantTextRun(t, many+"=5?C[=7][]=6", "l", many, impl.EndLong, 5)
	wantTextRun(t, many+"=5=6", "", many, impl.EndStop, 6)
	wantTextRun(t, "{=1A=2A=3A=4A=5A=6A=7A^0}", "", strings.Repeat("A", 60), impl.EndLong, 5)
}

func TestRunsThatDoNothingForever(t *testing.T) {
	for _, text := range []string{
		"{^0}", "{(^1)}", "{{^1}}", "{{^0}}", "({^0})", "{({(^3)})}", "{()^0}", "{=0=0^0}", "{#[^0]}", "{#[][A]^0}", "{(^0)^0}", "{^0A}", "{#[^0][A]}", "{" + nested(8, "^8") + "}", "{" + strings.Repeat("(^0)", 45) + "^0}", "{{}{}{}^0}Z", "({{^0}^1}Y)Z",
	} {
		for ahead, done := range map[string]string{"": "", "A": "A", "AB": "AB", "(A)": "A", "{AB}": "AB", "()": "", "(B^0C)": "B"} {
			wantTextRun(t, ahead+text, "", done, impl.EndLong, 0)
		}
	}
	wantTextRuns(t, []textRun{
		{"{?A[{^0}][^0]}", "l", "A", impl.EndLong}, {"{?A[{^0}][^0]}", "rrl", "AAA", impl.EndLong}, {"{?A[{^0}][^0]}", "rr", "AAA", impl.EndAsk}, {"{?A[{^0}][B]}", "r", "AB", impl.EndStop},
		{"{?A[][B]{^0}}", "r", "AB", impl.EndLong}, {"{?A[{B^1}][]}{^0}", "lr", "ABA", impl.EndLong}, {"{?A[{B^1}][]}{^0}", "lrl", "ABA", impl.EndLong},
	}...)
	wantTextRun(t, "A{#[=1^0][=1^0]}", "", "A", impl.EndLong, 1)
	// Many steps without a block, but not forever: ten rounds with the number.
	round := "{" + strings.Repeat("(^0)", 27) + "#[=1^0][=2^0][=3^0][=4^0][=5^0][=6^0][=7^0][=8^0][=9^0][A=0^0]}"
	wantTextRun(t, round, "", strings.Repeat("A", 60), impl.EndLong, 9)
	wantTextRun(t, strings.Replace(round, "A=0^0", "A", 1), "", "A", impl.EndStop, 9)
	wantTextRun(t, strings.Replace(round, "A=0^0", "", 1), "", "", impl.EndStop, 9)
}

// The number that the last of 4000 steps leaves tells that there have been neither more nor fewer.
func TestTheLastOfSoManySteps(t *testing.T) {
	// A round is twelve steps: `=0` to `=9`, `^0` and the beginning anew. Each frame ahead is one step, and so is the first beginning.
	digits := "=0=1=2=3=4=5=6=7=8=9"
	for n := range 40 {
		text, number := strings.Repeat("()", n)+"{"+digits+"^0}", min((4000-n-2)%12, 9)
		for ahead, trace := range map[string]string{"": "", "A": "A", "ABC": "ABC", "=7A": "A", "?A[B][]": "AB", "{()()?A[][]}": "A", "A#[B]": "AB", "{?A[][^0]}": "A", strings.Repeat("A", 59): strings.Repeat("A", 59), strings.Repeat("A", 60): strings.Repeat("A", 60)} {
			wantTextRun(t, ahead+text, "l", trace, impl.EndLong, number)
		}
		wantTextRun(t, "{()?A[^0][]}"+text, "llr", "AAA", impl.EndLong, number)
	}
	for text, number := range map[string]int{
		// A frame within the round is one step more, whichever it is; its end is none.
		"{(" + digits + "^1)}": 6, "{{" + digits + "^1}}": 6, "{(" + digits + ")^0}": 6, "{{" + digits + "}^0}": 6, "{({" + digits + "^2})}": 6,
		// A step that leaves a frame is one, and nothing begins anew by it.
		"{(^0)" + digits + "^0}": 6, "{" + digits + "(^0)^0}": 8, "{(^0)(^0)" + digits + "^0}": 9, "{({^1})" + digits + "^0}": 5,
		// `#` is one, and its brackets are none.
		"{#[][^0]" + digits + "^0}": 6, "{#[" + digits + "^0]" + digits + "^0}": 6,
		"{#[=1^0][=0^0]}": 0, "(){#[=1^0][=0^0]}": 0, "()(){#[=1^0][=0^0]}": 1, "()()()()(){#[=1^0][=0^0]}": 1, "()()()()()(){#[=1^0][=0^0]}": 0,
		// Behind the last block, the frames around it are no steps any more, and neither are brackets.
		"(({A{" + digits + "^0}}))": 2, "{?A[{" + digits + "^0}][]}": 2, "?A[(){" + digits + "^0}][]": 1, "?A[#[{" + digits + "^0}]][]": 1,
	} {
		if got := impl.NumberIn(text, "l"); got != number || !impl.EndsSilently(text, "l") {
			t.Errorf("NumberIn(%q) = %d, want %d", text, got, number)
		}
	}
}

func TestRunsOfNoText(t *testing.T) {
	for _, text := range []string{"(", ")", "^0", "(^1)", "?A[]", "A[]", "a", "=", "#", "A.(", "A}", "=10", nested(10, ""), "#" + brackets(11), strings.Repeat("A", 201), strings.Repeat("(", 100000), "\x00", "Ä"} {
		for _, choices := range []string{"", "l", "r", "x", strings.Repeat("l", 20), strings.Repeat("l", 21)} {
			wantNoTextRuns(t, text, choices)
		}
		wantSameTexts(t, text, text, false)
		wantSameTexts(t, text, "A", false)
		wantSameTexts(t, text, "", false)
		g := parsed(t, "A>B,B?CD,C>B,D.")
		other, ok := impl.FirstOther(g, text)
		wantText(t, fmt.Sprintf("FirstOther(%.40q)", text), other, ok, "", false)
		if impl.SameRuns(g, text) {
			t.Errorf("SameRuns(%.40q) = true", text)
		}
	}
	for _, choices := range []string{"x", "L", "R", " ", "lx", "l ", "0", "\x00", "\xff", "lrlrx", strings.Repeat("l", 21), strings.Repeat("r", 21), strings.Repeat("lr", 100000)} {
		// Choices that are left over have to be choices all the same.
		for _, text := range []string{"", "A", ".", "{^0}", "?A[][]", "=5", strings.Repeat("A", 61)} {
			wantNoTextRuns(t, text, choices)
		}
	}
	// Texts of 200 bytes and choices of 20 are valid.
	wantTextRun(t, strings.Repeat("()", 99)+"=3", strings.Repeat("l", 20), "", impl.EndStop, 3)
	for what, g := range badGraphs() {
		for _, text := range []string{"", "A", "A.", "?A[][]", "(", "^0"} {
			other, ok := impl.FirstOther(g, text)
			wantText(t, what+": FirstOther "+text, other, ok, "", false)
			if impl.SameRuns(g, text) {
				t.Errorf("%s: SameRuns(%q) = true", what, text)
			}
		}
	}
}

func TestShortChoices(t *testing.T) {
	for n, want := range [][]string{{""}, {"", "l", "r"}, {"", "l", "r", "ll", "lr", "rl", "rr"}, {"", "l", "r", "ll", "lr", "rl", "rr", "lll", "llr", "lrl", "lrr", "rll", "rlr", "rrl", "rrr"}} {
		if got, ok := impl.ShortChoices(n); !slices.Equal(got, want) || !ok {
			t.Errorf("ShortChoices(%d) = %q, %v", n, got, ok)
		}
	}
	for n := range 7 {
		got, ok := impl.ShortChoices(n)
		if !slices.Equal(got, choicesUpTo(n)) || len(got) != 1<<(n+1)-1 || !ok {
			t.Errorf("ShortChoices(%d) = %q, %v", n, got, ok)
		}
		for i, choices := range got {
			if !impl.ChoicesValid(choices) || i > 0 && !earlier(got[i-1], choices) {
				t.Errorf("ShortChoices(%d): %q behind %q", n, choices, got[max(i-1, 0)])
			}
		}
		// A result is no other's memory, not even behind its end.
		for i := range got {
			got[i] = "x"
		}
		_ = append(got, "y")
		if again, ok := impl.ShortChoices(n); !slices.Equal(again, choicesUpTo(n)) || !ok {
			t.Errorf("ShortChoices(%d) once more = %q, %v", n, again, ok)
		}
	}
	for _, n := range []int{-1, 7, -2, 8, 20, 63, 64, 1 << 31, -1 << 31, 1<<63 - 1, -1 << 63} {
		if got, ok := impl.ShortChoices(n); len(got) != 0 || ok {
			t.Errorf("ShortChoices(%d) = %q, %v", n, got, ok)
		}
	}
}

// asked returns a text that asks so many times, and does others behind the choices that are all of the same side; other choices end it.
func asked(side byte, times int, behind string) string {
	if side == 'l' {
		return strings.Repeat("?A[", times) + behind + strings.Repeat("][]", times)
	}
	return strings.Repeat("?A[][", times) + behind + strings.Repeat("]", times)
}

func TestSameTexts(t *testing.T) {
	for _, pair := range [][2]string{
		{"A", "A."}, {"A(B)", "AB"}, {"", "."}, {"", "=5"}, {"A", "{A}"}, {"A", "(A^0B)"}, {"A.B", "A.C"}, {"?A[B][C]D", "?A[BD][CD]"}, {"?A[][]B", "?A[B][B]"}, {"{A^0}", "{AA^0}"}, {"{^0}", "{()^0}"}, {"=1#[A][B]", "B"},
		{"A{?B[C^0][]}D.", "A{#[?B[=1^0][]][C=0^0]}D"}, {strings.Repeat("A", 61), strings.Repeat("A", 62)}, {"{A^0}", strings.Repeat("A", 61)}, {"A{^0}", "A{(^1)}"}, {strings.Repeat("A", 60) + "{^0}", "{A^0}"},
	} {
		wantSameTexts(t, pair[0], pair[1], true)
	}
	for _, pair := range [][2]string{
		{"A", "B"}, {"A", ""}, {"A", "AA"}, {"AB", "BA"}, {"?A[B][C]", "?A[C][B]"}, {"?A[][]", "A"}, {"?A[][]", "?A[][B]"}, {"?A[][]", "?A[B][]"}, {"{A^0}", "A"}, {"A{^0}", "A"}, {strings.Repeat("A", 60), strings.Repeat("A", 61)},
		{strings.Repeat("A", 60), "{A^0}"}, {"?A[][]{^0}", "?A[][]"}, {"?A[][{^0}]", "?A[][]"}, {"?A[?B[][]][]", "?A[B][]"}, {"A", "a"}, {"A", "(A"},
	} {
		wantSameTexts(t, pair[0], pair[1], false)
	}
	for _, side := range []byte("lr") {
		for times := range 10 {
			// Six choices tell what is done behind six, and seven are not short.
			wantSameTexts(t, asked(side, times, "B"), asked(side, times, "C"), times > 6)
			wantSameTexts(t, asked(side, times, "B"), asked(side, times, ""), times > 6)
			wantSameTexts(t, asked(side, times, "?B[][]"), asked(side, times, "B"), times > 6)
			wantSameTexts(t, asked(side, times, "?B[][C]"), asked(side, times, "?B[][]"), times > 5)
			wantSameTexts(t, asked(side, times, "{^0}"), asked(side, times, ""), times > 6)
		}
	}
}

func TestFirstOther(t *testing.T) {
	for _, c := range [][3]string{
		{"A>B,B?CD,C>B,D.", "A{?B[C^0][]}D.", "-"}, {"A?BC,B>D,C>D,D.", "(?A[B^0][C^0])D.", "-"}, {"A?BC,B>D,C>D,D.", "(?A[B^0][C])D.", "-"}, {"A.", "A", "-"}, {"A.", "A.", "-"}, {"A>A", "{A^0}", "-"}, {"A>A", strings.Repeat("A", 61), "-"},
		{"A.", "", ""}, {"A.", "B", ""}, {"A.", "AA", ""}, {"A.", "A{^0}", ""}, {"A>A", "A", ""}, {"A>A", strings.Repeat("A", 60), ""}, {"A>A", strings.Repeat("A", 60) + "{^0}", "-"}, {"A>A", strings.Repeat("A", 59) + "{^0}", ""},
		{"A?AB,B.", "A", ""}, {"A.", "?A[][]", ""}, {"A?BC,B.,C.", "?A[C][B]", "l"}, {"A?BC,B.,C.", "?A[B][B]", "r"}, {"A?BC,B.,C.", "?A[][]", "l"}, {"A?BC,B.,C.", "?A[B][C]", "-"}, {"A?BC,B.,C.", "?A[B][C{^0}]", "r"},
		{"A>B,B?CD,C>B,D.", "A?B[C][D.]", "l"}, {"A>B,B?CD,C>B,D.", "A?B[C?B[][D]][D]", "ll"}, {"A>B,B?CD,C>B,D.", "A?B[C?B[C?B[][]][D]][D]", "lll"}, {"A>B,B?CD,C>B,D.", "A{?B[C^0][D{^0}]}", "r"},
		{"A>B,B?CD,C>B,D.", "A{?B[C^0][E]}D", "r"},
		// Of other ones of the same length, the first in the order of bytes.
		{"A?BC,B?DE,C?FG,D.,E.,F.,G.", "?A[?B[D][]][?C[][G]]", "lr"}, {"A?BC,B?DE,C?FG,D.,E.,F.,G.", "?A[?B[D][E]][?C[][]]", "rl"}, {"A?BC,B?DE,C?FG,D.,E.,F.,G.", "?A[?B[D][E]][?C[F][]]", "rr"}, {"A?BC,B?DE,C?FG,D.,E.,F.,G.", "?A[?B[D][E]][?C[F][G]]", "-"},
		{"A?AB,B.", "{?A[^0][B]}", "-"}, {"A?AB,B.", "{?A[^0][]}", "r"}, {"A?BA,B.", "{?A[][^0]}B", "-"}, {"A?BA,B.", "{?A[][^0]}", "l"},
	} {
		wantOther(t, parsed(t, c[0]), c[1], c[2])
	}
	for _, side := range []byte("lr") {
		// A graph whose entry A branches to itself and to B, and texts that do so only so many times.
		g := parsed(t, map[byte]string{'l': "A?AB,B.", 'r': "A?BA,B."}[side])
		for times := range 12 {
			text := strings.Repeat(map[byte]string{'l': "?A[", 'r': "?A[B]["}[side], times) + strings.Repeat(map[byte]string{'l': "][B]", 'r': "]"}[side], times)
			if times > 6 {
				wantOther(t, g, text, "-")
				continue
			}
			wantOther(t, g, text, strings.Repeat(string(side), times))
		}
	}
}

// A plainRunOfText is what a run of a text comes to.
type plainRunOfText struct {
	trace       string
	end, number int
}

// A plainText is a text with frames whose bytes are done one by one.
type plainText struct {
	text   string
	ends   map[int]int   // where the frame or bracket that begins at a byte ends
	around map[int][]int // where the frames around a step begin, the innermost one last
}

// plainTextOf finds what lies within what in a text with frames.
func plainTextOf(text string) plainText {
	p := plainText{text, map[int]int{}, map[int][]int{}}
	var open []int
	for i, b := range []byte(text) {
		switch b {
		case '(', '{', '[':
			open = append(open, i)
		case ')', '}', ']':
			p.ends[open[len(open)-1]] = i
			open = open[:len(open)-1]
		case '^':
			for _, begin := range open {
				if text[begin] != '[' {
					p.around[i] = append(p.around[i], begin)
				}
			}
		}
	}
	return p
}

// bracketsAt returns where the brackets begin that stand one behind the other from a byte on, and what is behind them.
func (p plainText) bracketsAt(at int) ([]int, int) {
	var begins []int
	for at < len(p.text) && p.text[at] == '[' {
		begins = append(begins, at)
		at = p.ends[at] + 1
	}
	return begins, at
}

// plainTextRun is the run of a text with frames, byte by byte, with nothing but the place and the number kept.
func plainTextRun(text string, choices string) plainRunOfText {
	p := plainTextOf(text)
	run := plainRunOfText{}
	for at, idle := 0, 0; at < len(text); {
		b := text[at]
		if b == ')' || b == '}' {
			at++
			continue
		}
		if b == ']' {
			// The other brackets, if there are some behind it, are not done.
			_, at = p.bracketsAt(at + 1)
			continue
		}
		idle++
		if idle > 4000 {
			run.end = impl.EndLong
			return run
		}
		name := b
		switch b {
		case '.':
			return run
		case '(', '{':
			at++
			continue
		case '=':
			run.number = int(text[at+1] - '0')
			at += 2
			continue
		case '^':
			begin := p.around[at][len(p.around[at])-1-int(text[at+1]-'0')]
			if text[begin] == '(' {
				at = p.ends[begin] + 1
				continue
			}
			idle++
			if idle > 4000 {
				run.end = impl.EndLong
				return run
			}
			at = begin + 1
			continue
		case '#':
			begins, behind := p.bracketsAt(at + 1)
			at = behind
			if run.number < len(begins) {
				at = begins[run.number] + 1
			}
			continue
		case '?':
			name = text[at+1]
		}
		if len(run.trace) == 60 {
			run.end = impl.EndLong
			return run
		}
		run.trace += string(rune(name))
		idle = 0
		at++
		if b != '?' {
			continue
		}
		if choices == "" {
			run.end = impl.EndAsk
			return run
		}
		begins, _ := p.bracketsAt(at + 1)
		at = begins[strings.IndexByte("lr", choices[0])] + 1
		choices = choices[1:]
	}
	return run
}

// checkTextRun checks one run of a text with frames by the plain definition, and returns it.
func checkTextRun(t *testing.T, text string, choices string) plainRunOfText {
	t.Helper()
	want := plainTextRun(text, choices)
	wantTextRun(t, text, choices, want.trace, want.end, want.number)
	return want
}

func TestRunsOfAllShortTexts(t *testing.T) {
	for bytes, length := range map[string]int{"A?[]": 9, "#[]A": 7, "A(){}^01": 6, "#[]=1A?": 6, "{A^0}.=1#[]": 5, "({^01})": 6, "{?A[^0]}": 6} {
		texts, ran := []string{""}, 0
		for range length + 1 {
			var longer []string
			for _, text := range texts {
				if impl.TextValid(text) {
					ran++
					for _, choices := range choicesUpTo(2) {
						checkTextRun(t, text, choices)
					}
				}
				for _, b := range strings.Split(bytes, "") {
					longer = append(longer, text+b)
				}
			}
			texts = longer
		}
		if ran < 20 {
			t.Errorf("%d texts of %q have been run", ran, bytes)
		}
	}
}

// someText returns a text with frames that a source of numbers tells; it rarely stops, and often begins frames anew.
func someText(source *rand.Rand, size int) string {
	for {
		text := someItems(source, size, 0)
		if source.Intn(10) > 0 {
			text = strings.ReplaceAll(text, ".", "")
		}
		if source.Intn(2) > 0 {
			text = strings.NewReplacer("(", "{", ")", "}").Replace(text)
		}
		if len(text) <= 200 {
			return text
		}
	}
}

// someChoices returns at most so many choices that a source of numbers tells.
func someChoices(source *rand.Rand, most int) string {
	choices := ""
	for range source.Intn(most + 1) {
		choices += string("lr"[source.Intn(2)])
	}
	return choices
}

func TestRunsOfLargerTexts(t *testing.T) {
	source := rand.New(rand.NewSource(6))
	ends, silent, numbers, long := [3]int{}, 0, [10]int{}, 0
	for range 10000 {
		run := checkTextRun(t, someText(source, source.Intn(180)), someChoices(source, 20))
		ends[run.end]++
		numbers[run.number]++
		if run.end == impl.EndLong && len(run.trace) < 60 {
			silent++
		}
		if len(run.trace) > 20 {
			long++
		}
	}
	if slices.Min(ends[:]) < 1000 || slices.Min(numbers[:]) < 100 || silent < 300 || silent > ends[impl.EndLong]-300 || long < 300 {
		t.Errorf("of the runs, %v have each end, %v each number, %d are silent in the end, and %d have more than twenty blocks", ends, numbers, silent, long)
	}
}

// plainOther returns the first short choices for which two runs differ, or - if there are none.
func plainOther(run, other func(choices string) (string, int)) string {
	for _, choices := range choicesUpTo(6) {
		trace, end := run(choices)
		if otherTrace, otherEnd := other(choices); trace != otherTrace || end != otherEnd {
			return choices
		}
	}
	return "-"
}

// numberedText returns a text that does what a graph of at most ten blocks does: it sets the number of the block that is next.
func numberedText(g []impl.Block) string {
	place := map[string]string{}
	for i, b := range g {
		place[b.Name] = fmt.Sprintf("=%d^0", i)
	}
	text := "{#"
	for _, b := range g {
		switch len(b.Next) {
		case 0:
			text += "[" + b.Name + "]"
		case 1:
			text += "[" + b.Name + place[b.Next] + "]"
		case 2:
			text += "[?" + b.Name + "[" + place[b.Next[:1]] + "][" + place[b.Next[1:]] + "]]"
		}
	}
	return text + "}"
}

func TestGraphsAndTextsThatDoTheSame(t *testing.T) {
	source := rand.New(rand.NewSource(7))
	lengths := map[int]int{}
	check := func(g []impl.Block) {
		wantOther(t, g, numberedText(g), "-")
		// The text of a graph in which one Next is another one, which may do the same though.
		h := slices.Clone(g)
		first, last := h[0].Name, h[len(h)-1].Name
		h[source.Intn(len(h))].Next = []string{"", first, last, first + last, last + first}[source.Intn(5)]
		if first == last {
			h[0].Next = []string{"", "Q"}[source.Intn(2)]
		}
		text := numberedText(h)
		other := plainOther(func(choices string) (string, int) { return plainRun(g, choices) }, plainOutcomes(text))
		wantOther(t, g, text, other)
		if other == "-" {
			lengths[-1]++
		} else {
			lengths[len(other)]++
		}
	}
	for _, names := range []string{"Q", "BA", "CAB"} {
		allGraphs(names, check)
	}
	for range 100 {
		check(someGraph(source, 2+source.Intn(7), 1+source.Intn(8)))
	}
	if lengths[-1] < 100 || lengths[0] < 100 || lengths[1] < 100 || lengths[2] < 10 || lengths[3] == 0 {
		t.Errorf("how often the first other choices have each length, -1 for none: %v", lengths)
	}
}

// plainOutcomes returns a function that tells what runs of a text come to by the plain definition, without the number.
func plainOutcomes(text string) func(choices string) (string, int) {
	return func(choices string) (string, int) {
		run := plainTextRun(text, choices)
		return run.trace, run.end
	}
}

func TestLargerTextsThatDoTheSame(t *testing.T) {
	source := rand.New(rand.NewSource(8))
	same, differ := 0, 0
	for range 500 {
		a := someItems(source, 1+source.Intn(40), 0)
		// One name, digit or frame becomes another one, wherever it stands, or items that do nothing come ahead of others.
		swaps := [][]string{{"A", "B"}, {"?", "()?"}, {"=", "()="}, {"^0", "()^0"}, {"^1", "^0"}, {"=1", "=2"}, {"{", "(", "}", ")"}, {"(", "{", ")", "}"}, {"][", "]["}}
		b := strings.NewReplacer(swaps[source.Intn(len(swaps))]...).Replace(a)
		if names, _ := impl.BlocksIn(a); names != "" && source.Intn(2) > 0 {
			b = strings.Replace(a, names[source.Intn(len(names)):][:1], "A", 1)
		}
		if a == b || !impl.TextValid(a) || !impl.TextValid(b) {
			continue
		}
		want := plainOther(plainOutcomes(a), plainOutcomes(b)) == "-"
		wantSameTexts(t, a, b, want)
		if want {
			same++
		} else {
			differ++
		}
	}
	if same < 50 || differ < 50 {
		t.Errorf("%d pairs of different texts do the same, %d do not", same, differ)
	}
}

// All goroutines that a call begins end with it: those that wait forever would fail the bubble.
func TestNoGoroutineIsLeft(t *testing.T) {
	for _, pair := range [][2]string{{"A", "A"}, {"A", "B"}, {"", "A"}, {"{^0}", "A"}, {"A", "("}, {"(", "A"}, {asked('r', 6, "B"), asked('r', 6, "C")}, {"?A[][]", "?A[B][]"}} {
		synctest.Test(t, func(t *testing.T) {
			want := pair[0] == pair[1]
			if got := impl.SameTexts(pair[0], pair[1]); got != want {
				t.Errorf("SameTexts(%q) = %v", pair, got)
			}
		})
	}
}

func TestTextRunsKeepNoState(t *testing.T) {
	whole := append(parsed(t, "A>B,B?CD,C>B,D.,E>D"), impl.Block{Name: "X", Next: "Y"})
	before := slices.Clone(whole)
	for range 2 {
		wantTextRun(t, "{?A[^0=5][]}=4", "lrlll", "AA", impl.EndStop, 4)
		wantTextRun(t, "#[?A[][]][B]", "", "A", impl.EndAsk, 0)
		wantTextRun(t, "A{^0}", "", "A", impl.EndLong, 0)
		wantNoTextRuns(t, "{{{A", "l")
		wantOther(t, whole[:5], "A{?B[C^0][]}D.", "-")
		wantOther(t, whole[:5], "A", "")
		wantSameTexts(t, "A", "B", false)
		wantSameTexts(t, "A", "A.", true)
	}
	if !slices.Equal(whole, before) {
		t.Errorf("runs of texts change their graph: %v", whole)
	}
}
