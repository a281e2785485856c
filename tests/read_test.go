package tests

import (
	"fmt"
	"math/rand"
	"slices"
	"strings"
	"testing"

	"loop.example/structuredjumps/impl"
)

// wantGraphRead checks the functions of a whole text that has a graph.
func wantGraphRead(t *testing.T, text string, want []impl.Block, unreached string) {
	t.Helper()
	call := fmt.Sprintf("%q: ", text)
	if g, ok := impl.ReadGraph(text); !slices.Equal(g, want) || !ok {
		t.Errorf("%sReadGraph = %q, %v, want %q", call, impl.FormatGraph(g), ok, impl.FormatGraph(want))
	}
	first, ok := impl.FirstIn(text)
	wantText(t, call+"FirstIn", first, ok, want[0].Name, true)
	left, ok := impl.UnreachedIn(text)
	wantText(t, call+"UnreachedIn", left, ok, unreached, true)
	made, canMake := impl.MakeText(want)
	remade, ok := impl.RemakeText(text)
	wantText(t, call+"RemakeText", remade, ok, made, canMake)
}

// wantRead checks all functions of a text that has a graph, with all names and with texts that are none.
func wantRead(t *testing.T, text string, graph string, unreached string) {
	t.Helper()
	want := parsed(t, graph)
	wantGraphRead(t, text, want, unreached)
	nexts := map[string]string{}
	for _, b := range want {
		nexts[b.Name] = b.Next
	}
	for _, name := range append(strings.Split(alphabet, ""), "", "a", "AB", "BA", " ", "?", "A ", "\x00", "\xff", "Ä") {
		next, ok := impl.BehindIn(text, name)
		want, wantOK := nexts[name]
		wantText(t, fmt.Sprintf("BehindIn(%q, %q)", text, name), next, ok, want, wantOK)
	}
}

// wantReads checks texts all of whose blocks are in their graph.
func wantReads(t *testing.T, want map[string]string) {
	t.Helper()
	for text, graph := range want {
		wantRead(t, text, graph, "")
	}
}

// wantReadsWithout checks texts by their graphs and the blocks that are not in these.
func wantReadsWithout(t *testing.T, want map[string][2]string) {
	t.Helper()
	for text, want := range want {
		wantRead(t, text, want[0], want[1])
	}
}

// wantRemade checks the text that is made of the graph of one, which is empty if there is none.
func wantRemade(t *testing.T, text string, want string) {
	t.Helper()
	remade, ok := impl.RemakeText(text)
	wantText(t, fmt.Sprintf("RemakeText(%q)", text), remade, ok, want, want != "")
}

// wantNotRead checks all functions of texts that have no graph.
func wantNotRead(t *testing.T, texts ...string) {
	t.Helper()
	for _, text := range texts {
		call := fmt.Sprintf("%.300q: ", text)
		if g, ok := impl.ReadGraph(text); len(g) != 0 || ok {
			t.Errorf("%sReadGraph = %q, %v", call, impl.FormatGraph(g), ok)
		}
		first, ok := impl.FirstIn(text)
		wantText(t, call+"FirstIn", first, ok, "", false)
		left, ok := impl.UnreachedIn(text)
		wantText(t, call+"UnreachedIn", left, ok, "", false)
		wantRemade(t, text, "")
		for _, name := range []string{"A", "B", "C", "Z", "", "a", "AB"} {
			next, ok := impl.BehindIn(text, name)
			wantText(t, call+"BehindIn "+name, next, ok, "", false)
		}
	}
}

// lettersOf returns the letters of a text.
func lettersOf(text string) string {
	return strings.Map(func(r rune) rune {
		if strings.ContainsRune(alphabet, r) {
			return r
		}
		return -1
	}, text)
}

func TestGraphsOfTextsOfTheDocument(t *testing.T) {
	wantReads(t, map[string]string{
		"A{?B[C^0][D.]}":      "A>B,B?CD,C>B,D.",
		"A{?B[C^0][]}D.":      "A>B,B?CD,C>B,D.",
		"(?A[B^0][C^0])D.":    "A?BC,B>D,C>D,D.",
		"(?A[^0][D^0]){BC^0}": "A?BD,B>C,D>B,C>B",
		"?A[][D]{BC^0}":       "A?BD,B>C,D>B,C>B",
		"AD":                  "A>D,D.",
		"(A^0)D":              "A>D,D.",
	})
	wantRead(t, "((A^1B)C)D", "A>D,D.", "BC")
	wantRemade(t, "A{?B[C^0][]}D.", "A{?B[C^0][D.]}")
	wantRemade(t, "((A^1B)C)D", "AD.")
	wantNotRead(t, "{#[A=1^0][?B[=2^0][=3^0]][C=1^0][D.]}", "{#[?A[=1^0][=2^0]][B=2^0][C=1^0]}")
}

func TestGraphsOfTextsWithoutSteps(t *testing.T) {
	wantReads(t, map[string]string{
		"A": "A.", "Z": "Z.", "A.": "A.", "A..": "A.", "AB": "A>B,B.", "BA": "B>A,A.", "ZMA.": "Z>M,M>A,A.", "?A[B][C]": "A?BC,B.,C.", "?A[C][B]": "A?CB,C.,B.", "?Z[Y.][X.]": "Z?YX,Y.,X.",
		// Behind the end of a frame the run goes on behind it, whichever it is, and behind the end of a bracket behind both.
		"(A)": "A.", "{A}": "A.", "A(B)C": "A>B,B>C,C.", "A{B}C": "A>B,B>C,C.", "(({A})B)": "A>B,B.", "{(A)}{B}": "A>B,B.", "?A[(B)][{C}]D": "A?BC,B>D,C>D,D.", "{?A[B][C]}D": "A?BC,B>D,C>D,D.", "?A[?B[C][D]][E]F": "A?BE,B?CD,E>F,C>F,D>F,F.",
		"()A": "A.", "A{}()B": "A>B,B.", "(A.)": "A.", "A{.}": "A.", "?A[B][C].": "A?BC,B.,C.", nested(9, "") + "A": "A.", nested(9, "A") + "B": "A>B,B.",
	})
	all := impl.FormatGraph(chainOfAll(""))
	for _, text := range []string{alphabet, alphabet + ".", "({" + alphabet + "})", nested(9, alphabet), alphabet[:20] + "(" + alphabet[20:] + ")"} {
		wantRead(t, text, all, "")
		wantRemade(t, text, alphabet+".")
	}
}

func TestGraphsOfTextsWithSteps(t *testing.T) {
	wantReads(t, map[string]string{
		"(^0)A": "A.", "A(^0)B": "A>B,B.", "A(^0).": "A.", "(A^0)B": "A>B,B.", "({^1})A": "A.", "A({(^2)})B": "A>B,B.", "((A^0)B)C": "A>B,B>C,C.", "A" + nested(9, "^8") + "B": "A>B,B.", "A" + nested(9, "B^8") + "C": "A>B,B>C,C.",
		"(?A[B^0][C])D": "A?BC,B>D,C>D,D.", "((?A[^0][^1])B)C": "A?BC,B>C,C.", "((?A[^1][^0])B)C": "A?CB,C.,B>C", "(({?A[^1][^2]})B)C": "A?BC,B>C,C.", "(?A[{B^1}][C])D": "A?BC,B>D,C>D,D.",
	})
	wantReadsWithout(t, map[string][2]string{
		"(((A^0B)C)D)E": {"A>C,C>D,D>E,E.", "B"}, "(((A^1B)C)D)E": {"A>D,D>E,E.", "BC"}, "(((A^2B)C)D)E": {"A>E,E.", "BCD"}, "({A^1B}C)D": {"A>D,D.", "BC"}, "({{A^2}B}C)D": {"A>D,D.", "BC"}, "(A(B(C^2)D)E)F.": {"A>B,B>C,C>F,F.", "DE"}, "(A(B(C^1)D)E)F": {"A>B,B>C,C>E,E>F,F.", "D"},
	})
}

func TestBlocksOfTextsThatNoRunDoes(t *testing.T) {
	wantReadsWithout(t, map[string][2]string{
		"A.B": {"A.", "B"}, "A.BC": {"A.", "BC"}, "A.CB": {"A.", "CB"}, "A.B.": {"A.", "B"}, "(^0A)B.": {"B.", "A"}, "(^0B)A(^0C)D": {"A>D,D.", "BC"}, "{A^0}B": {"A>A", "B"}, "{A^0B}C": {"A>A", "BC"}, "?A[B.][C.]D": {"A?BC,B.,C.", "D"}, "?A[B.D][C.]": {"A?BC,B.,C.", "D"}, "(?A[B^0][C^0]D)E": {"A?BC,B>E,C>E,E.", "D"},
		// They are told in the order of the text.
		"Z(Y^0X)W(V^0U)T": {"Z>Y,Y>W,W>V,V>T,T.", "XU"}, "(^0ZYX)B": {"B.", "ZYX"}, "(^0?Z[Y][X])B": {"B.", "ZYX"}, "(^0C)B.A": {"B.", "CA"}, "A.?M[Z{Y}][(X)]B": {"A.", "MZYXB"},
		// They would be in no graph, or make runs go on forever, but no run comes to them.
		"A.?B[][]": {"A.", "B"}, "A.?B[C][]": {"A.", "BC"}, "A.?B[][C]D": {"A.", "BCD"}, "A.?B[.][C]": {"A.", "BC"}, "A.?B[][]C": {"A.", "BC"}, "A.{^0}": {"A.", ""}, "A.B{^0}": {"A.", "B"}, "A.?B[{^0}][{^0}]": {"A.", "B"}, "(^0{^0})A": {"A.", ""},
		"(A^0{^0})B": {"A>B,B.", ""}, "(A^0B{^0})C": {"A>C,C.", "B"}, "?A[B.{^0}][C]": {"A?BC,B.,C.", ""}, "?A[B.?D[][]][C]E": {"A?BC,B.,C>E,E.", "D"}, "{A^0}{^0}": {"A>A", ""}, "{A^0?B[][]}": {"A>A", "B"}, "{?A[^0][B.]?C[^0][^0]}": {"A?AB,B.", "C"},
		// Behind them, runs would go on to blocks that some run does, or back to the entry.
		"A(^0B)C": {"A>C,C.", "B"}, "{A(^0B^1)C^0}": {"A>C,C>A", "B"}, "{(?A[^0][^1]B^1)C^0}": {"A?CA,C>A", "B"}, "(^0?B[A][])C": {"C.", "BA"},
	})
	wantRead(t, "A."+alphabet[1:], "A.", alphabet[1:])
	wantRead(t, "(^0"+alphabet[:25]+")Z", "Z.", alphabet[:25])
}

func TestChoicesThatLeadToTheSameBlock(t *testing.T) {
	wantNotRead(t, "?A[][]B", "?A[()][]B", "(?A[^0][])B", "(?A[^0][^0])B", "((?A[^0][^1]))B", "(({?A[^1][^2]}))B", "{?A[^0][^0]}", "{?A[^0][]^0}", "{?A[(^0)][^0]^0}", "{{?A[^1][^0]}}", "{?A[][]B^0}", "{B?A[^0][]^0}", "C?A[][]B", "C{?A[{}][(^0)]B^0}",
		"?A[B][]{?C[^0][^0]}", "A{(?B[^0][])C^0}", "?A[?B[][]][C]D", "?A[B][?C[][]]D", "?A[B][?C[][]D]E")
	wantReads(t, map[string]string{
		// One block more makes others of them.
		"?A[B][]C": "A?BC,B>C,C.", "?A[][B]C": "A?CB,C.,B>C", "(?A[^0][B])C": "A?CB,C.,B>C", "{?A[^0][]}B": "A?AB,B.", "{?A[][^0]}B": "A?BA,B.", "{B{?A[^1][^0]}}": "B>A,A?BA", "{?A[][B]^0}": "A?AB,B>A", "{?A[B][]^0}": "A?BA,B>A",
	})
}

func TestChoicesThatLeadToNoBlock(t *testing.T) {
	wantNotRead(t, "?A[][]", "?A[B][]", "?A[][B]", "?A[.][B]", "?A[B][.]", "?A[.][.]", "?A[.][]B", "?A[][.]B", "?A[.][B]C", "?A[B][.]C", "(?A[^0][B])", "(?A[B][^0])", "{?A[^0][]}", "{?A[][^0]}", "{?A[^0][.]}B", "{?A[.][^0]}B", "(?A[^0][B^0]).", "(?A[B^0][^0].C)", "((?A[^0][^1]).)B",
		"A?B[][]", "A?B[C][]", "?A[?B[C][]][D]", "?A[?B[][C]][D]", "?A[D][?B[C][]]", "?A[D][?B[][C]]", "{?A[?B[^0][]][C]}", "A{?B[C^0][]}", "A{?B[][C^0]}", "A{?B[C^0][]}.D", "((?A[^0][^1])B)", "((?A[^1][^0])B)", "?A[B]["+nested(9, "^8")+"]", "?A["+nested(9, "^8")+"][B]")
	wantReads(t, map[string]string{
		"?A[B.][]C": "A?BC,B.,C.", "?A[][B.]C": "A?CB,C.,B.", "?A[?B[C][]D][E]": "A?BE,B?CD,E.,C>D,D.", "?A[B][" + nested(9, "^8") + "]C": "A?BC,B>C,C.", "?A[" + nested(9, "^8") + "][B]C": "A?CB,C.,B>C",
	})
}

func TestTextsThatDoNothingForever(t *testing.T) {
	for _, text := range []string{
		"{^0}", "{(^1)}", "{{^1}}", "{{^0}}", "({^0})", "{({(^3)})}", "{()^0}", "{{}^0}", "{(^0)^0}", "{" + nested(7, "^7") + "}", "{" + strings.Repeat("(^0)", 20) + "^0}", "{{}{}{}^0}Z", "({{^0}^1}Y)Z", "({(^1Y)}Z)", "{({^1})^0}", "{{}({^2})}", "{(((^1)^1)^0)^0}",
	} {
		// At the beginning, behind a block, and with some choices only.
		wantNotRead(t, text, "()"+text, "(^0A)"+text, text+"A", "A"+text, "A"+text+"B", "AB"+text, "A(B^0C)"+text, "?A["+text+"][B]", "?A[B]["+text+"]", "?A["+text+"][B]C", "?A[B]["+text+"]C", "?A[B][C]"+text, "?A[B.][]"+text, "?A[][B.]"+text, "{?A[^0]["+text+"]}", "{?A["+text+"][^0]}",
			"{?A[B^0][]}"+text, "?A[?B[C.][D"+text+"]][E.]", "?A[?B[C.][D]"+text+"][E.]", "?A[C.][?B["+text+"][D.]]", "?A[C.][?B[D.]["+text+"]]")
		wantRead(t, "A."+text, "A.", lettersOf(text))
		wantRead(t, "(A^0"+text+")B", "A>B,B.", lettersOf(text))
	}
	wantReads(t, map[string]string{
		// A block is done in between, or the frame is not begun anew.
		"{}A": "A.", "A{}B{}": "A>B,B.", "{A^0}": "A>A", "{{A^1}}": "A>A", "{{A^0}}": "A>A", "{({^1})A^0}": "A>A", "{{}A{}^0}": "A>A", "{({({^3})^1})A{}^0}": "A>A", "{(^0){}A^0}": "A>A", "{{}{}?A[^0][B{}^0]}": "A?AB,B>A", "{" + nested(8, "A^8") + "}": "A>A",
		// All frames that a text can have are come by, each once.
		strings.Repeat("(^0)", 49) + "A.": "A.", strings.Repeat("{}", 99) + "A.": "A.", "A" + strings.Repeat("{}", 99) + ".": "A.", "A" + strings.Repeat("(^0)", 49) + "B.": "A>B,B.", "{" + strings.Repeat("(^0)", 48) + "A^0}": "A>A", "{A" + strings.Repeat("{}", 97) + "^0}": "A>A",
		"A{" + strings.Repeat("{}", 90) + "?B[^0][C]" + "}": "A>B,B?BC,C.",
	})
}

func TestTextsThatStopAheadOfAnyBlock(t *testing.T) {
	wantNotRead(t, "", ".", "..", "()", "{}", "(())", "({})", "(^0)", "(^0).", ".A", "..A", "(.)A", "{.}A", "(.^0)A", "(^0A)", "({^1A})", "(^0A).B", "((^1A)B)", "((^0A).B)C", ".?A[B][C]", ".{A^0}", "().A", nested(9, ".")+"A", nested(9, ""), nested(9, "^8A"), strings.Repeat("()", 100), strings.Repeat(".", 200), "."+alphabet)
}

func TestBlocksThatStandTwiceInTexts(t *testing.T) {
	wantNotRead(t, "AA", "ABA", "A.A", "A.BB", "(A)A", "(A^0A)B", "(^0A)A", "?A[B][B]", "?A[B.][B.]", "?A[B][C]A", "?A[B][C]B", "?A[BC][C]", "?A[A][B]", "?A[B][A]", "{?A[^0][B]}A", "{A^0}A", "A.?A[B][C]", "A.?B[C][D]B", "AB.?B[][]", alphabet+"A", alphabet+"Z", "A"+alphabet, "A."+alphabet[1:]+"Z")
}

func TestTextsThatUseTheNumberHaveNoGraph(t *testing.T) {
	wantNotRead(t, "=1", "#[]", "=1A", "A=1", "=0A", "A=9.", "A.=0", "#[A]", "A#[]", "A#[B]C", "A.#[B]", "A.#[]", "#[]A", "(A^0=1)B", "(^0#[])A", "?A[=1B][C]", "?A[B][C=1]", "?A[B][C].=1", "{#[A^0]}", "{=0A^0}", "{A^0}#[B][C]", "=1#[A][B]", "A(B=0)C")
}

func TestBlocksOfTextsThatGoBackToThemselves(t *testing.T) {
	wantReads(t, map[string]string{
		"{A^0}": "A>A", "B{A^0}": "B>A,A>A", "{{A^0}}": "A>A", "{({A^0})}": "A>A", "{?A[^0][B]}": "A?AB,B.", "{?A[B][^0]}": "A?BA,B.", "{?A[^0][]}B{?C[D][^0]}": "A?AB,B>C,C?DC,D.", "A{?B[^0][]}{?C[^0][]}D": "A>B,B?BC,C?CD,D.", "?A[{B^0}][{C^0}]": "A?BC,B>B,C>C",
		"{{?A[^0][B^1]}}": "A?AB,B>A", "{?A[^0][{?B[^0][^1]}]}": "A?AB,B?BA", "{?A[^0][{?B[^1][^0]}]}": "A?AB,B?AB", "{{?A[][^1]}B^0}": "A?BA,B>A",
	})
	wantRemade(t, "A{?B[^0][]}{?C[^0][]}D", "A{?B[^0][{?C[^0][D.]}]}")
	wantRemade(t, "{?A[^0][{?B[^1][^0]}]}", "{?A[^0][{?B[^1][^0]}]}")
	wantRemade(t, "{({A^0})}", "{A^0}")
}

func TestFramesOfTextsThatAreBegunAnewFromFurtherIn(t *testing.T) {
	wantReads(t, map[string]string{
		"{A{B{C^2}}}": "A>B,B>C,C>A", "{A{B{C^1}}}": "A>B,B>C,C>B", "{A{B{C^0}}}": "A>B,B>C,C>C", "{A(B({C^3}))}": "A>B,B>C,C>A", "Z{A(?B[^1][C])D^0}": "Z>A,A>B,B?AC,C>D,D>A", "{A{?B[^0][^1]}}": "A>B,B?BA", "{A{?B[^1][C^0]}}": "A>B,B?AC,C>B", "{A({?B[C^1][D^2]})E^0}": "A>B,B?CD,C>E,D>A,E>A",
		"{A{B?C[^1][?D[^0][]]}E^0}": "A>B,B>C,C?AD,D?BE,E>A", "{A{B?C[^1][?D[^0][E^1]]}}": "A>B,B>C,C?AD,D?BE,E>A", "X{A{Y{B?C[^0][?D[^1][?E[^2][F]]]}}}": "X>A,A>Y,Y>B,B>C,C?BD,D?YE,E?AF,F.",
	})
	wantReadsWithout(t, map[string][2]string{"{A(B(C^2)D)E}F": {"A>B,B>C,C>A", "DEF"}, "{(A^0B)C^0}D": {"A>C,C>A", "BD"}, "{A(B^1C)D}E": {"A>B,B>A", "CDE"}, "{A{B^0C}D}E": {"A>B,B>B", "CDE"}})
	for n := 1; n <= 9; n++ {
		for k := range n {
			text := ""
			g := chainOfAll("")[:n]
			for i := range n {
				text += "{" + alphabet[i:i+1]
			}
			g[n-1].Next = alphabet[n-1-k : n-k]
			wantRead(t, text+fmt.Sprintf("^%d", k)+strings.Repeat("}", n), impl.FormatGraph(g), "")
		}
	}
}

func TestEntriesOfTextsThatAreGoneBackTo(t *testing.T) {
	wantReads(t, map[string]string{
		"{AB^0}": "A>B,B>A", "{BA^0}": "B>A,A>B", "{?A[B^0][C^0]}": "A?BC,B>A,C>A", "{(?A[B^0][C^0])?D[^0][E.]}": "A?BC,B>D,C>D,D?AE,E.", "{({?A[^1][]}B^1)C^0}": "A?CB,C>A,B>A", "{?A[][B^0]C}D": "A?CB,C>D,B>A,D.", "()({A?B[^0][]})C": "A>B,B?AC,C.", "{{A^1}}": "A>A",
	})
	wantRead(t, "(^0Z){A?B[^0][]}C", "A>B,B?AC,C.", "Z")
	wantRead(t, "{(^0Z)AB^0}", "A>B,B>A", "Z")
	wantRead(t, "{(A^0Z)B^0}", "A>B,B>A", "Z")
}

func TestOrdersOfGraphsOfTexts(t *testing.T) {
	wantReads(t, map[string]string{
		// All that is behind the entry is ahead of what is behind these.
		"?A[?B[D][E]][?C[F][G]]": "A?BC,B?DE,C?FG,D.,E.,F.,G.", "?A[BCD][EFG]": "A?BE,B>C,E>F,C>D,F>G,D.,G.", "?A[B(D)E][C]F": "A?BC,B>D,C>F,D>E,F.,E>F", "?G[?F[E][D]C][B]A": "G?FB,F?ED,B>A,E>C,D>C,A.,C>A",
		// Where a block is come to by several ways, the first of them counts.
		"?A[B][]C": "A?BC,B>C,C.", "?A[][BC]D": "A?DB,D.,B>C,C>D", "(?A[B^0][?C[D^0][E]])F": "A?BC,B>F,C?DE,F.,D>F,E>F", "((?A[?B[^1][^0]][?C[D^0][^1]])E)F": "A?BC,B?FE,C?DF,F.,E>F,D>E", "((?A[?B[^0][^1]][?C[^1][^0]])D)E": "A?BC,B?DE,C?ED,D>E,E.",
		"((?A[?B[^0][^1]][?C[^1][^0]])E)D": "A?BC,B?ED,C?DE,E>D,D.", "((?A[?C[^1][^0]][?B[^0][^1]])D)E": "A?CB,C?ED,B?DE,E.,D>E",
		// What has been come to is not come to again, the entry and the block itself included.
		"{?Z[Y^0][?X[^0][W]]}": "Z?YX,Y>Z,X?ZW,W.", "{?A[?B[^0][C]][D^0]}E": "A?BD,B?AC,D>A,C>E,E.",
	})
	wantRead(t, "A({?B[?C[^0][D^0]][^1]}E)F.", "A>B,B?CF,C?BD,F.,D>B", "E")
}

// deepText returns a text that asks so many times, each time within the left choice of the time before, and goes back to the entry with each other choice; behind all of them stands another text.
func deepText(times int, last string) string {
	text := "{"
	for i := range times {
		text += "?" + alphabet[i:i+1] + "[^0]["
	}
	return text + last + strings.Repeat("]", times) + "}"
}

func TestGraphsOfTextsWithManyChoices(t *testing.T) {
	// Runs with more than MaxChoices choices are meant as well: some blocks are done by no others.
	for times := 18; times <= 24; times++ {
		g := chainOfAll("")[:times]
		for i := range g {
			g[i].Next = "A" + g[i].Next
		}
		g[0].Next = "AB"
		g[times-1].Next = "AZ"
		wantRead(t, deepText(times, "Z"), impl.FormatGraph(append(g, impl.Block{Name: "Z"})), "")
		wantRead(t, deepText(times, "Z.Y"), impl.FormatGraph(append(g, impl.Block{Name: "Z"})), "Y")
		wantRead(t, deepText(times, "Z^0"), impl.FormatGraph(append(g, impl.Block{Name: "Z", Next: "A"})), "")
		wantNotRead(t, deepText(times, ""), deepText(times, "."), deepText(times, "{^0}"), deepText(times, "^0"))
		if times <= 23 {
			wantNotRead(t, deepText(times, "Z{^0}"), deepText(times, "?Z[][]"), deepText(times, "?Z[^0][]"))
		}
	}
}

func TestGraphsOfTextsOfTwoHundredBytes(t *testing.T) {
	for _, text := range []string{"A" + strings.Repeat("()", 99) + ".", "A." + strings.Repeat(".", 198), "(A)" + strings.Repeat("(^0)", 49) + "."} {
		wantRead(t, text, "A.", "")
		wantNotRead(t, text+".", text+"B", "("+text+")", text+strings.Repeat("()", 100000))
	}
	wantRead(t, "A."+strings.Repeat("(^0)", 49)+"BC", "A.", "BC")
	wantNotRead(t, "A."+strings.Repeat("(^0)", 49)+"BCD")
}

func TestGraphsOfNoText(t *testing.T) {
	wantNotRead(t, "(", ")", "A(", "A)", "(A", "(A}", "A]", "A^0", "^0", "A(^1)", "?A[B]", "?A[B][C][D]", "A[]", "a", "Aa", "A B", "A\n", "A\x00", "Ä", "\xff", "A,B", "A>B,B.", "A.)", "(^)A", nested(10, "A"), "A"+nested(10, ""), strings.Repeat("(", 100000), strings.Repeat("A", 100000), alphabet+strings.Repeat(".", 175))
}

// nestOfAsks returns a text without frames that asks so many times, each time within the left choice of the time before, and does one block more behind both choices of each time.
// The text that is made of its graph has so many frames within each other.
func nestOfAsks(times int) string {
	text := "N"
	for i := times - 1; i >= 0; i-- {
		text = "?" + alphabet[i:i+1] + "[" + text + "][]" + alphabet[25-i:26-i]
	}
	return text
}

// rowOfAsks returns a text that asks so many times, each time within the right choice of the time before, does a block behind all other choices, and begins anew with the last one.
// The text that is made of its graph has two bytes more for each time, and three more.
func rowOfAsks(times int) string {
	text := "{"
	for i := range times {
		text += "?" + alphabet[i:i+1] + "[]["
	}
	return text + "^0" + strings.Repeat("]", times) + "Z}"
}

func TestTextsWhoseGraphHasNoText(t *testing.T) {
	wantRead(t, nestOfAsks(2), "A?BZ,B?NY,Z.,N>Y,Y>Z", "")
	wantRemade(t, nestOfAsks(2), "(?A[(?B[N^0][^0])Y^0][^0])Z.")
	for times := 8; times <= 12; times++ {
		text := nestOfAsks(times)
		wantRemade(t, nested(9, text), remadeNest(times))
		wantRemade(t, text, remadeNest(times))
		if g, ok := impl.ReadGraph(text); len(g) != 2*times+1 || !ok || impl.CanMake(g) != (times <= 9) {
			t.Errorf("ReadGraph(%q) = %q, %v", text, impl.FormatGraph(g), ok)
		}
	}
	// Nine frames around, and in the text that is made one more.
	loops := func(n int) string {
		text := ""
		for i := range n {
			text += "{?" + alphabet[i:i+1] + "[^0]["
		}
		return text + "?X[Y][]Z" + strings.Repeat("]}", n)
	}
	wantRemade(t, loops(8), strings.Replace(loops(8), "?X[Y][]Z", "(?X[Y^0][^0])Z.", 1))
	if g, ok := impl.ReadGraph(loops(9)); len(g) != 12 || !ok {
		t.Errorf("ReadGraph(%q) = %q, %v", loops(9), impl.FormatGraph(g), ok)
	}
	wantRemade(t, loops(9), "")
	// A text that is made would have more than 200 bytes.
	wantRead(t, rowOfAsks(3), "A?ZB,Z.,B?ZC,C?ZA", "")
	wantRemade(t, rowOfAsks(3), "{(?A[^0][?B[^0][?C[^0][^1]]])Z.}")
	for times := 22; times <= 25; times++ {
		g, ok := impl.ReadGraph(rowOfAsks(times))
		if len(g) != times+1 || !ok {
			t.Errorf("ReadGraph(%q) = %q, %v", rowOfAsks(times), impl.FormatGraph(g), ok)
		}
		remade, ok := impl.RemakeText(rowOfAsks(times))
		if times > 24 {
			wantText(t, "RemakeText "+rowOfAsks(times), remade, ok, "", false)
		} else if len(remade) != 8*times+8 || !ok {
			t.Errorf("RemakeText(%q) = %q, %v", rowOfAsks(times), remade, ok)
		}
	}
}

// remadeNest returns the text that is made of the graph of nestOfAsks, which is empty if there is none.
func remadeNest(times int) string {
	if times > 9 {
		return ""
	}
	text := "N^0"
	for i := times - 1; i > 0; i-- {
		text = "(?" + alphabet[i:i+1] + "[" + text + "][^0])" + alphabet[25-i:26-i] + "^0"
	}
	return "(?A[" + text + "][^0])Z."
}

// wantSameGraphs checks SameGraphs both ways.
func wantSameGraphs(t *testing.T, a []impl.Block, b []impl.Block, want bool) {
	t.Helper()
	if got := impl.SameGraphs(a, b); got != want {
		t.Errorf("SameGraphs(%q, %q) = %v", impl.FormatGraph(a), impl.FormatGraph(b), got)
	}
	if got := impl.SameGraphs(b, a); got != want {
		t.Errorf("SameGraphs(%q, %q) = %v", impl.FormatGraph(b), impl.FormatGraph(a), got)
	}
}

func TestSameGraphs(t *testing.T) {
	for _, pair := range [][2]string{
		{"A.", "A."}, {"A>A", "A>A"}, {"A?BC,B.,C.", "A?BC,B.,C."},
		// They are the same but for the order of their blocks behind the entry.
		{"A?BC,B.,C.", "A?BC,C.,B."}, {"A>B,B?CD,C>B,D.", "A>B,D.,C>B,B?CD"}, {"C>A,A>B,B.", "C>A,B.,A>B"},
		// Blocks that are not reached make no difference, whatever their Next is.
		{"A.", "A.,B."}, {"A.", "A.,B>A"}, {"A.", "A.,B>C,C>B"}, {"A.,B.", "A.,B>A"}, {"A.,B.", "A.,C?AC"}, {"A>B,B.", "A>B,C>B,B.,D?CB"}, {"A?BC,B.,C.", "A?BC,D>A,C.,B."}, {"A>B,B.,C.", "A>B,C>A,B."}, {"A>A,B.", "A>A,B?AB"},
	} {
		wantSameGraphs(t, parsed(t, pair[0]), parsed(t, pair[1]), true)
	}
	for _, pair := range [][2]string{
		// Another entry, another Next, another order in it, or another block.
		{"A.", "B."}, {"A.,B.", "B.,A."}, {"A>B,B>A", "B>A,A>B"}, {"A>B,B.", "B.,A>B"}, {"A?AB,B?AB", "B?AB,A?AB"}, {"A.", "A>A"}, {"A>A", "A?AB,B."}, {"A>B,B.", "A>B,B>B"}, {"A>B,B.", "A>B,B>A"}, {"A>B,B.", "A."}, {"A>B,B.", "A.,B."}, {"A>B,B.", "A>C,C."}, {"A>B,B.,C.", "A>C,B.,C."},
		{"A?BC,B.,C.", "A?CB,B.,C."}, {"A?BC,B.,C.", "A?CB,C.,B."}, {"A?BC,B.,C.", "A>B,B.,C."}, {"A?BC,B.,C.", "A>C,B.,C."}, {"A?BC,B.,C.", "A.,B.,C."}, {"A?BC,B>C,C.", "A?BC,B.,C>B"}, {"A?BC,B>C,C>B", "A?BC,B>C,C."}, {"A?BC,B.,C.", "A?BD,B.,D."},
		// One block behind all others differs.
		{"A>B,B>C,C>D,D.", "A>B,B>C,C>D,D>A"}, {"A>B,B>C,C>D,D?AB", "A>B,B>C,C>D,D?BA"}, {"A>B,B>C,C?DE,D.,E.", "A>B,B>C,C?DE,D.,E>D"}, {"A>B,B?CD,C>B,D.", "A>B,B?CD,C>A,D."},
	} {
		wantSameGraphs(t, parsed(t, pair[0]), parsed(t, pair[1]), false)
	}
	for last := range alphabet {
		wantSameGraphs(t, chainOfAll(""), chainOfAll(alphabet[last:last+1]), false)
		g := chainOfAll(alphabet[last : last+1])
		slices.Reverse(g[1:])
		wantSameGraphs(t, chainOfAll(alphabet[last:last+1]), g, true)
	}
}

func TestSameGraphsOfNoGraphs(t *testing.T) {
	for what, g := range badGraphs() {
		for _, h := range [][]impl.Block{g, nil, {}, parsed(t, "A."), parsed(t, "A>B,B."), parsed(t, "A>A")} {
			if impl.SameGraphs(g, h) || impl.SameGraphs(h, g) {
				t.Errorf("%s: SameGraphs = true", what)
			}
		}
	}
	// What is not valid is not reached.
	wantSameGraphs(t, parsed(t, "A.,B."), []impl.Block{{Name: "A"}, {Name: "B", Next: "C"}}, false)
	wantSameGraphs(t, parsed(t, "A."), []impl.Block{{Name: "A"}, {Name: "A"}}, false)
}

// sortedText returns the text of the reached blocks of a graph, which is the same for all that are the same: the entry first, and all others in the order of the alphabet.
func sortedText(g []impl.Block) string {
	reached := closure(g)
	rest := slices.DeleteFunc(slices.Clone(g[1:]), func(b impl.Block) bool { return !strings.Contains(reached, b.Name) })
	slices.SortFunc(rest, func(a, b impl.Block) int { return strings.Compare(a.Name, b.Name) })
	return impl.FormatGraph(append(g[:1:1], rest...))
}

func TestSameGraphsOfSmallGraphs(t *testing.T) {
	source := rand.New(rand.NewSource(11))
	var all [][]impl.Block
	for _, names := range []string{"A", "AB", "BA", "ABC", "ACB", "CAB"} {
		allGraphs(names, func(g []impl.Block) { all = append(all, slices.Clone(g)) })
	}
	same := 0
	for i, g := range all {
		for range 30 {
			h := all[source.Intn(len(all))]
			if source.Intn(2) == 0 {
				// Another Next of one block, which may be not reached, or the same one.
				h = slices.Clone(g)
				k := source.Intn(len(h))
				h[k].Next = []string{"", h[0].Name, h[len(h)-1].Name, all[source.Intn(i+1)][0].Next}[source.Intn(4)]
				source.Shuffle(len(h)-1, func(i, k int) { h[i+1], h[k+1] = h[k+1], h[i+1] })
			}
			want := impl.GraphValid(h) && sortedText(g) == sortedText(h)
			wantSameGraphs(t, g, h, want)
			if want {
				same++
			}
		}
	}
	if same < 5000 || same > 25*len(all) {
		t.Errorf("of 30 pairs for each of %d graphs, %d are the same", len(all), same)
	}
}

// behind tells what runs do next: at first, by the empty text, behind a block alone, by its name, and behind a choice, by the name and this.
// It is the name of a block, or . if the run stops, or ~ if it goes on forever without a block.
type behind map[string]string

// behindByRuns is told by all runs with at most so many choices.
func behindByRuns(text string, most int) behind {
	done := behind{}
	for _, choices := range choicesUpTo(most) {
		run := plainTextRun(text, choices)
		key := ""
		for _, name := range strings.Split(run.trace, "") {
			done[key] = name
			key = name
			if strings.Contains(text, "?"+name) {
				key += choices[:min(1, len(choices))]
				choices = choices[min(1, len(choices)):]
			}
		}
		switch {
		case run.end == impl.EndStop:
			done[key] = "."
		case run.end == impl.EndLong && len(run.trace) < 60:
			done[key] = "~"
		}
	}
	return done
}

// behindByPlaces is told by the bytes that come behind each block, one by one, until a block or the end, or one that has been there.
func behindByPlaces(text string) behind {
	p := plainTextOf(text)
	done := behind{"": p.doneFrom(0)}
	for i, b := range []byte(text) {
		name := string(rune(b))
		switch {
		case !strings.Contains(alphabet, name):
		case i > 0 && text[i-1] == '?':
			begins, _ := p.bracketsAt(i + 1)
			done[name+"l"] = p.doneFrom(begins[0] + 1)
			done[name+"r"] = p.doneFrom(begins[1] + 1)
		default:
			done[name] = p.doneFrom(i + 1)
		}
	}
	return done
}

// doneFrom returns what a run does next from a byte on.
func (p plainText) doneFrom(at int) string {
	for been := map[int]bool{}; at < len(p.text); {
		if been[at] {
			return "~"
		}
		been[at] = true
		switch b := p.text[at]; b {
		case '.':
			return "."
		case ']':
			_, at = p.bracketsAt(at + 1)
		case '(', '{', ')', '}':
			at++
		case '?':
			return p.text[at+1 : at+2]
		case '^':
			begin := p.around[at][len(p.around[at])-1-int(p.text[at+1]-'0')]
			at = begin + 1
			if p.text[begin] == '(' {
				at = p.ends[begin] + 1
			}
		default:
			return p.text[at : at+1]
		}
	}
	return "."
}

// graph returns the graph that what is done next makes, and whether there is one.
func (b behind) graph() ([]impl.Block, bool) {
	var g []impl.Block
	come := b[""]
	for i := 0; i < len(come); i++ {
		name := come[i : i+1]
		if strings.Contains(".~", name) {
			return nil, false
		}
		next, alone := b[name]
		if !alone {
			next = b[name+"l"] + b[name+"r"]
			if strings.Contains(next, ".") || next[:1] == next[1:] {
				return nil, false
			}
		}
		next = strings.TrimSuffix(next, ".")
		for _, to := range strings.Split(next, "") {
			if !strings.Contains(come, to) {
				come += to
			}
		}
		g = append(g, impl.Block{Name: name, Next: next})
	}
	return g, true
}

// checkRead checks the functions of a whole text in which no block stands twice and that does not use the number by what is done next, and returns its graph, if there is one.
// All functions are checked for a text without a graph only if all is so.
func (b behind) checkRead(t *testing.T, text string, all bool) []impl.Block {
	t.Helper()
	want, ok := b.graph()
	if ok {
		names, _ := impl.NamesOf(want)
		left := strings.Map(func(r rune) rune {
			if strings.ContainsRune(names, r) {
				return -1
			}
			return r
		}, lettersOf(text))
		wantGraphRead(t, text, want, left)
		return want
	}
	if g, ok := impl.ReadGraph(text); len(g) != 0 || ok {
		t.Errorf("ReadGraph(%q) = %q, %v", text, impl.FormatGraph(g), ok)
	}
	if all {
		wantNotRead(t, text)
	}
	return nil
}

// textsOf returns all texts with so many items within so many frames; names of blocks are the first letters behind some that have been used, in their order.
func textsOf(items int, frames int, used int) []string {
	if items == 0 {
		return []string{""}
	}
	var texts []string
	// What stands within the first item, and then what stands behind it.
	add := func(open string, inside int, middle string, end string, framesInside int, used int) {
		for _, first := range textsOf(inside, framesInside, used) {
			used := used + len(lettersOf(first))
			if middle == "" {
				for _, rest := range textsOf(items-1-inside, frames, used) {
					texts = append(texts, open+first+end+rest)
				}
				continue
			}
			for more := range items - inside {
				for _, second := range textsOf(more, frames, used) {
					for _, rest := range textsOf(items-1-inside-more, frames, used+len(lettersOf(second))) {
						texts = append(texts, open+first+middle+second+end+rest)
					}
				}
			}
		}
	}
	name := alphabet[used : used+1]
	add(name, 0, "", "", frames, used+1)
	add(".", 0, "", "", frames, used)
	for k := range frames {
		add(fmt.Sprintf("^%d", k), 0, "", "", frames, used)
	}
	for inside := range items {
		add("(", inside, "", ")", frames+1, used)
		add("{", inside, "", "}", frames+1, used)
		add("?"+name+"[", inside, "][", "]", frames, used+1)
	}
	return texts
}

func TestGraphsOfAllShortTexts(t *testing.T) {
	for items, least := range []int{0, 1, 5, 50, 500, 5000} {
		texts, graphs := textsOf(items, 0, 0), 0
		for _, text := range texts {
			g := behindByRuns(text, strings.Count(text, "?")).checkRead(t, text, items < 5)
			if h, _ := behindByPlaces(text).graph(); !slices.Equal(g, h) {
				t.Errorf("the definitions tell %q and %q of %q", impl.FormatGraph(g), impl.FormatGraph(h), text)
			}
			if g == nil {
				continue
			}
			graphs++
			if items < 5 {
				wantOther(t, g, text, "-")
			}
		}
		if graphs < least || graphs > len(texts)/4+1 {
			t.Errorf("of %d texts of %d items, %d have a graph", len(texts), items, graphs)
		}
	}
}

// onceItems returns any number of items within so many frames, of about as many bytes as told, that a source of numbers tells; blocks take their names from those that are left.
func onceItems(source *rand.Rand, left *string, size int, frames int) string {
	text := ""
	for len(text) < size {
		text += onceItem(source, left, size-len(text), frames)
	}
	return text
}

// onceItem returns one item, likewise, or none if there is no name left for it.
func onceItem(source *rand.Rand, left *string, size int, frames int) string {
	kind := source.Intn(40)
	switch {
	case kind < 10 && frames < 9:
		ends := [...]string{"()", "{}"}[source.Intn(2)]
		return ends[:1] + onceItems(source, left, source.Intn(size+1), frames+1) + ends[1:]
	case kind < 14 && frames > 0:
		return fmt.Sprintf("^%d", source.Intn(frames))
	case kind < 15:
		return "."
	case *left == "":
		return "()"
	}
	name := (*left)[:1]
	*left = (*left)[1:]
	if kind < 25 {
		return name
	}
	// Most choices lead to different blocks: one of the brackets begins with a block.
	inner := []string{"", ""}
	for i := range inner {
		inner[i] = onceItems(source, left, source.Intn(size+1)/2, frames)
	}
	if one := source.Intn(3); one < 2 && *left != "" {
		inner[one] = (*left)[:1] + inner[one]
		*left = (*left)[1:]
	}
	return "?" + name + "[" + inner[0] + "][" + inner[1] + "]"
}

// onceText returns a text with frames in which no block stands twice and that does not use the number, of about as many bytes as told.
func onceText(source *rand.Rand, size int) string {
	for {
		left := ""
		for _, k := range source.Perm(26) {
			left += alphabet[k : k+1]
		}
		last := left[:1]
		left = left[1:]
		if text := onceItems(source, &left, size, 0) + last; len(text) <= 200 {
			return text
		}
	}
}

func TestGraphsOfLargerTexts(t *testing.T) {
	source := rand.New(rand.NewSource(12))
	graphs, large, without, unread, loops := 0, 0, 0, 0, 0
	for round := range 20000 {
		text := onceText(source, 5+source.Intn(20+round%150))
		g := behindByPlaces(text).checkRead(t, text, round%10 == 0)
		if g == nil {
			unread++
			continue
		}
		graphs++
		if len(g) >= 8 {
			large++
		}
		if len(g) < len(lettersOf(text)) {
			without++
		}
		if back, _ := impl.BackJumps(g); len(back) > 0 {
			loops++
		}
		// Frames have one beginning, so no text leads into a loop in another way.
		if !impl.IsTame(g) {
			t.Errorf("the graph of %q is not tame: %q", text, impl.FormatGraph(g))
		}
		for range 5 {
			choices := someChoices(source, 20)
			trace, end := plainRun(g, choices)
			if run := plainTextRun(text, choices); run.trace != trace || run.end != end {
				t.Errorf("with %q %q does %q, and its graph %q %q", choices, text, run.trace, impl.FormatGraph(g), trace)
			}
		}
		for _, name := range strings.Split(lettersOf(text), "") {
			next, ok := impl.NextOf(g, name)
			got, gotOK := impl.BehindIn(text, name)
			wantText(t, fmt.Sprintf("BehindIn(%q, %q)", text, name), got, gotOK, next, ok)
		}
	}
	if graphs < 2000 || large < 200 || without < 200 || loops < 200 || unread < 2000 {
		t.Errorf("%d texts have a graph, %d of these one of eight blocks or more, %d one without some block, %d one with jumps back; %d have none", graphs, large, without, loops, unread)
	}
}

// checkMadeRead checks that the graph of the text that is made of a graph is the same graph, and returns whether there is such a text.
func checkMadeRead(t *testing.T, g []impl.Block) bool {
	t.Helper()
	text, ok := impl.MakeText(g)
	if !ok {
		return false
	}
	read, ok := impl.ReadGraph(text)
	if !ok || !impl.SameGraphs(g, read) || sortedText(g) != sortedText(read) {
		t.Errorf("ReadGraph(%q) = %q, %v, want %q", text, impl.FormatGraph(read), ok, impl.FormatGraph(g))
	}
	left, ok := impl.UnreachedIn(text)
	wantText(t, "UnreachedIn "+text, left, ok, "", true)
	wantRemade(t, text, text)
	return true
}

func TestGraphsOfTextsThatAreMade(t *testing.T) {
	for _, names := range []string{"Q", "BA", "CAB"} {
		allGraphs(names, func(g []impl.Block) { checkMadeRead(t, g) })
	}
	source := rand.New(rand.NewSource(13))
	made := 0
	for round := range 600 {
		g := denseGraph(source, 2+source.Intn(25))
		if round%2 == 0 {
			g = tameGraph(source, 2+source.Intn(25))
		}
		if checkMadeRead(t, g) {
			made++
		}
	}
	if made < 300 {
		t.Errorf("texts are made of %d graphs", made)
	}
}

func TestGraphsOfTextsKeepNoState(t *testing.T) {
	text := "A{?B[C^0][D.E]}F"
	for range 2 {
		g, _ := impl.ReadGraph(text)
		g = g[:cap(g)]
		for i := range g {
			g[i] = impl.Block{Name: "X", Next: "YZ"}
		}
		wantRead(t, text, "A>B,B?CD,C>B,D.", "EF")
		wantNotRead(t, "A{^0}", "?A[B][]", "A(")
		wantRead(t, "{A^0}", "A>A", "")
	}
	whole := append(parsed(t, "A>B,B.,C>A"), impl.Block{Name: "X", Next: "Y"})
	before := slices.Clone(whole)
	for range 2 {
		wantSameGraphs(t, whole[:3], parsed(t, "A>B,C>B,B."), true)
		wantSameGraphs(t, whole[:3], whole, false)
	}
	if !slices.Equal(whole, before) {
		t.Errorf("SameGraphs changes a graph: %v", whole)
	}
}
