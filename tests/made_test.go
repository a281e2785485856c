package tests

import (
	"math/rand"
	"slices"
	"strconv"
	"strings"
	"testing"

	"loop.example/structuredjumps/impl"
)

// A part is what the functions of one block return: the frames around it in the text of a graph, and its own text.
type part struct {
	frames, text string
}

// wantMade checks the functions of a whole graph of which a text is made.
func wantMade(t *testing.T, g []impl.Block, want string) {
	t.Helper()
	call := impl.FormatGraph(g) + ": "
	text, ok := impl.MakeText(g)
	wantText(t, call+"MakeText", text, ok, want, true)
	if got := impl.MakeLength(g); got != len(want) {
		t.Errorf("%sMakeLength = %d, want %d", call, got, len(want))
	}
	if !impl.CanMake(g) {
		t.Errorf("%sCanMake = false", call)
	}
	needed := []int{strings.Count(want, "("), strings.Count(want, "{"), strings.Count(want, "^")}
	if got, ok := impl.CountNeeded(g); !slices.Equal(got, needed) || !ok {
		t.Errorf("%sCountNeeded = %v, %v, want %v", call, got, ok, needed)
	}
}

// wantPart checks the functions of one block of a graph of which a text is made.
func wantPart(t *testing.T, g []impl.Block, name string, want part) {
	t.Helper()
	call := impl.FormatGraph(g) + ": "
	frames, ok := impl.FramesAt(g, name)
	wantText(t, call+"FramesAt "+name, frames, ok, want.frames, true)
	text, ok := impl.TextFrom(g, name)
	wantText(t, call+"TextFrom "+name, text, ok, want.text, true)
}

// wantNoPart checks the functions of one block where there is no such block, or no text is made of the graph.
func wantNoPart(t *testing.T, what string, g []impl.Block, name string) {
	t.Helper()
	frames, ok := impl.FramesAt(g, name)
	wantText(t, what+": FramesAt "+name, frames, ok, "", false)
	text, ok := impl.TextFrom(g, name)
	wantText(t, what+": TextFrom "+name, text, ok, "", false)
}

// wantNotMade checks all functions for blocks of which no text is made.
func wantNotMade(t *testing.T, what string, g []impl.Block) {
	t.Helper()
	text, ok := impl.MakeText(g)
	wantText(t, what+": MakeText", text, ok, "", false)
	if got := impl.MakeLength(g); got != -1 {
		t.Errorf("%s: MakeLength = %d", what, got)
	}
	if impl.CanMake(g) {
		t.Errorf("%s: CanMake = true", what)
	}
	if got, ok := impl.CountNeeded(g); len(got) != 0 || ok {
		t.Errorf("%s: CountNeeded = %v, %v", what, got, ok)
	}
	for _, name := range append(strings.Split(alphabet, ""), "", "a", "AB", "BA", " ", "?", "\x00", "Ä") {
		wantNoPart(t, what, g, name)
	}
}

// wantTooLarge checks all functions for a tame graph whose text would be none with frames.
func wantTooLarge(t *testing.T, what string, g []impl.Block) {
	t.Helper()
	if !impl.IsTame(g) {
		t.Errorf("%s: IsTame(%v) = false", what, g)
	}
	wantNotMade(t, what, g)
}

// wantMades checks the texts that are made of some graphs, by the texts of these.
func wantMades(t *testing.T, want map[string]string) {
	t.Helper()
	for text, made := range want {
		wantMade(t, parsed(t, text), made)
	}
}

func TestMadeTextsOfTheDocument(t *testing.T) {
	wantMades(t, map[string]string{
		"A?BC,B>D,C>D,D.":          "(?A[B^0][C^0])D.",
		"A>B,B?CD,C>B,D.":          "A{?B[C^0][D.]}",
		"A?BD,B>C,C>B,D>B":         "(?A[^0][D^0]){BC^0}",
		"A>B,B>C,C?DE,D>C,E.":      "AB{?C[D^0][E.]}",
		"A>D,D.":                   "AD.",
		"A>C,C?DE,D>C,E.":          "A{?C[D^0][E.]}",
		"A>B,B?CF,C?DE,D>B,E>C,F.": "A{?B[{?C[D^1][E^0]}][F.]}",
	})
	g := parsed(t, "A>B,B?CD,C>B,D.")
	wantPart(t, g, "A", part{"", "A{?B[C^0][D.]}"})
	wantPart(t, g, "B", part{"", "{?B[C^0][D.]}"})
	wantPart(t, g, "C", part{"b", "C^0"})
	wantPart(t, g, "D", part{"b", "D."})
}

func TestMadeTextsWithoutFrames(t *testing.T) {
	wantMades(t, map[string]string{
		"A.":         "A.",
		"Z.":         "Z.",
		"A>B,B.":     "AB.",
		"B>A,A.":     "BA.",
		"M>Z,A.,Z>A": "MZA.",
		// The first one of Next stands in the first bracket, whichever is first in the graph, the alphabet or the way order.
		"A?BC,B.,C.":                 "?A[B.][C.]",
		"A?CB,B.,C.":                 "?A[C.][B.]",
		"A?CB,C.,B.":                 "?A[C.][B.]",
		"Z?AM,M?BC,A>D,B.,C>E,D.,E.": "?Z[AD.][?M[B.][CE.]]",
		"A?BC,B?DE,C?FG,D.,E.,F.,G.": "?A[?B[D.][E.]][?C[F.][G.]]",
	})
	g := parsed(t, "Z?AM,M?BC,A>D,B.,C>E,D.,E.")
	for name, text := range map[string]string{"Z": "?Z[AD.][?M[B.][CE.]]", "M": "?M[B.][CE.]", "A": "AD.", "B": "B.", "C": "CE.", "D": "D.", "E": "E."} {
		wantPart(t, g, name, part{"", text})
	}
}

func TestMadeTextsOfBlocksThatGoBackToThemselves(t *testing.T) {
	wantMades(t, map[string]string{
		"A>A":               "{A^0}",
		"A?AB,B.":           "{?A[^0][B.]}",
		"A?BA,B.":           "{?A[B.][^0]}",
		"A>B,B>B":           "A{B^0}",
		"A>B,B?BC,C?CD,D.":  "A{?B[^0][{?C[^0][D.]}]}",
		"A?BC,B>B,C>C":      "?A[{B^0}][{C^0}]",
		"A?BC,B>C,C?CD,D>D": "(?A[B^0][^0]){?C[^0][{D^0}]}",
		"A?AB,B?AC,C?AB":    "{?A[^0][{?B[^1][?C[^1][^0]]}]}",
		"A>B,B?BC,C?CA":     "{A{?B[^0][{?C[^0][^2]}]}}",
	})
	g := parsed(t, "A>B,B?BC,C?CA")
	wantPart(t, g, "A", part{"", "{A{?B[^0][{?C[^0][^2]}]}}"})
	wantPart(t, g, "B", part{"a", "{?B[^0][{?C[^0][^2]}]}"})
	wantPart(t, g, "C", part{"ba", "{?C[^0][^2]}"})
}

func TestMadeTextsWhoseEntryIsAHeader(t *testing.T) {
	wantMades(t, map[string]string{
		"A>B,B>A":                 "{AB^0}",
		"A>B,B?AC,C.":             "{A?B[^0][C.]}",
		"B>A,A>B":                 "{BA^0}",
		"A?BC,B>A,C>A":            "{?A[B^0][C^0]}",
		"A?BC,B>D,C>D,D?AE,E.":    "{(?A[B^0][C^0])?D[^0][E.]}",
		"A?BC,B?AD,C>D,D>A":       "{(?A[?B[^1][^0]][C^0])D^0}",
		"A?BC,B?AC,C>A":           "{(?A[?B[^1][^0]][^0])C^0}",
		"A?BC,B?DE,C?DE,D>A,E?AD": "{((?A[?B[^1][^0]][?C[^1][^0]])?E[^1][^0])D^0}",
	})
	g := parsed(t, "A?BC,B?AD,C>D,D>A")
	wantPart(t, g, "A", part{"", "{(?A[?B[^1][^0]][C^0])D^0}"})
	wantPart(t, g, "B", part{"Da", "?B[^1][^0]"})
	wantPart(t, g, "C", part{"Da", "C^0"})
	wantPart(t, g, "D", part{"a", "D^0"})
}

func TestMadeTextsOfHeadersWhereWaysMeet(t *testing.T) {
	wantMades(t, map[string]string{
		// Ways meet there from above, and others go back to it from within its loop.
		"A?BC,B>D,C>D,D?EF,E>D,F.":   "(?A[B^0][C^0]){?D[E^0][F.]}",
		"A?BC,B>D,C>D,D>D":           "(?A[B^0][C^0]){D^0}",
		"A?BC,B>C,C>D,D?CE,E.":       "(?A[B^0][^0]){C?D[^0][E.]}",
		"A?BC,B>D,C>D,D?EF,E?DF,F>D": "(?A[B^0][C^0]){(?D[?E[^1][^0]][^0])F^0}",
		"A>B,B?CD,C>E,D>E,E?EB":      "A{(?B[C^0][D^0]){?E[^0][^1]}}",
		"A>B,B?CD,C>D,D?EF,E?DB,F.":  "A{(?B[C^0][^0]){?D[?E[^0][^1]][F.]}}",
		"A?BC,B?CD,C?CD,D?DA":        "{((?A[?B[^0][^1]][^0]){?C[^0][^1]}){?D[^0][^1]}}",
	})
	g := parsed(t, "A?BC,B>D,C>D,D?EF,E?DF,F>D")
	wantPart(t, g, "A", part{"", "(?A[B^0][C^0]){(?D[?E[^1][^0]][^0])F^0}"})
	wantPart(t, g, "B", part{"D", "B^0"})
	wantPart(t, g, "C", part{"D", "C^0"})
	wantPart(t, g, "D", part{"", "{(?D[?E[^1][^0]][^0])F^0}"})
	wantPart(t, g, "E", part{"Fd", "?E[^1][^0]"})
	wantPart(t, g, "F", part{"d", "F^0"})
}

func TestMadeTextsWhereSeveralWaysMeet(t *testing.T) {
	wantMades(t, map[string]string{
		// The last one in the way order is behind the outermost frame, however they stand in the graph and the alphabet.
		"A?BC,B?DE,C>E,D>F,E>F,F.": "((?A[?B[D^1][^0]][C^0])E^0)F.",
		"A?BC,B?DE,C?DE,D.,E.":     "((?A[?B[^0][^1]][?C[^0][^1]])D.)E.",
		"A?BC,B?DE,C?ED,D.,E.":     "((?A[?B[^1][^0]][?C[^0][^1]])E.)D.",
		"A?BC,E.,D.,C?DE,B?DE":     "((?A[?B[^0][^1]][?C[^0][^1]])D.)E.",
		"A?BC,D.,E.,C?ED,B?DE":     "((?A[?B[^1][^0]][?C[^0][^1]])E.)D.",
		"A?BC,B?DE,C?ED,D.,E>D":    "((?A[?B[^1][^0]][?C[^0][^1]])E^0)D.",
		"A?BC,B?DE,C?ED,D>E,E.":    "((?A[?B[^0][^1]][?C[^1][^0]])D^0)E.",
		"A?ZY,W.,X>W,Y?XW,Z?YX":    "(((?A[?Z[^0][^1]][^0])?Y[^0][^1])X^0)W.",
		// One block's own jump may go there too.
		"A?BC,B>C,C.": "(?A[B^0][^0])C.",
		"A?CB,B>C,C.": "(?A[^0][B^0])C.",
		// Children of different blocks.
		"A?BC,B?DE,C>H,D>F,E>F,F>H,H.": "(?A[(?B[D^0][E^0])F^0][C^0])H.",
		"A?BC,B>D,C>D,D?EF,E>G,F>G,G.": "(?A[B^0][C^0])(?D[E^0][F^0])G.",
		"A?BC,B?DE,C>D,D>F,E>F,F.":     "((?A[?B[^0][E^1]][C^0])D^0)F.",
	})
	g := parsed(t, "A?BC,B?DE,C>H,D>F,E>F,F>H,H.")
	wantPart(t, g, "A", part{"", "(?A[(?B[D^0][E^0])F^0][C^0])H."})
	wantPart(t, g, "B", part{"H", "(?B[D^0][E^0])F^0"})
	wantPart(t, g, "C", part{"H", "C^0"})
	wantPart(t, g, "D", part{"FH", "D^0"})
	wantPart(t, g, "E", part{"FH", "E^0"})
	wantPart(t, g, "F", part{"H", "F^0"})
	wantPart(t, g, "H", part{"", "H."})
	h := parsed(t, "A?ZY,W.,X>W,Y?XW,Z?YX")
	wantPart(t, h, "A", part{"", "(((?A[?Z[^0][^1]][^0])?Y[^0][^1])X^0)W."})
	wantPart(t, h, "Z", part{"YXW", "?Z[^0][^1]"})
	wantPart(t, h, "Y", part{"XW", "?Y[^0][^1]"})
	wantPart(t, h, "X", part{"W", "X^0"})
	wantPart(t, h, "W", part{"", "W."})
}

func TestMadeTextsOfJumpsOutOfLoops(t *testing.T) {
	wantMades(t, map[string]string{
		// Out of one loop, to one block from several of it, and to different ones.
		"A>B,B?CD,C?BD,D.":     "A{(?B[?C[^1][^0]][^0])D.}",
		"A>B,B?CD,C?BE,D.,E.":  "A{?B[?C[^0][E.]][D.]}",
		"A>B,B?CD,C>D,D?BE,E.": "A{(?B[C^0][^0])?D[^0][E.]}",
		"A?BE,B?CE,C?BE,E.":    "(?A[{?B[?C[^0][^1]][^1]}][^0])E.",
		"A?BE,B>C,C?BD,D>E,E.": "(?A[{B?C[^0][D^1]}][^0])E.",
		// Out of several loops within each other.
		"A>B,B?CE,C?DE,D?CB,E.":              "A{(?B[{?C[?D[^0][^2]][^1]}][^0])E.}",
		"A>B,B?CF,C?DE,D>B,E>C,F.":           "A{?B[{?C[D^1][E^0]}][F.]}",
		"A>B,B>C,C>D,D?DE,E?CF,F?BG,G?AZ,Z.": "{A{B{C{?D[^0][?E[^1][?F[^2][?G[^3][Z.]]]]}}}}",
		"A?BZ,B?CZ,C?DZ,D?AE,E?BF,F?CZ,Z.":   "{(?A[{?B[{?C[?D[^3][?E[^1][?F[^0][^2]]]][^2]}][^1]}][^0])Z.}",
		"A?BZ,B>C,C>D,D?DE,E?CF,F?BZ,Z.":     "(?A[{B{C{?D[^0][?E[^1][?F[^2][^3]]]}}}][^0])Z.",
	})
	g := parsed(t, "A?BZ,B?CZ,C?DZ,D?AE,E?BF,F?CZ,Z.")
	wantPart(t, g, "B", part{"Za", "{?B[{?C[?D[^3][?E[^1][?F[^0][^2]]]][^2]}][^1]}"})
	wantPart(t, g, "C", part{"bZa", "{?C[?D[^3][?E[^1][?F[^0][^2]]]][^2]}"})
	wantPart(t, g, "D", part{"cbZa", "?D[^3][?E[^1][?F[^0][^2]]]"})
	wantPart(t, g, "F", part{"cbZa", "?F[^0][^2]"})
	wantPart(t, g, "Z", part{"a", "Z."})
	// What is behind a loop stands within its frame if no other way comes to it.
	h := parsed(t, "A>B,B>C,C>D,D?DE,E?CF,F?BG,G?AZ,Z.")
	wantPart(t, h, "C", part{"ba", "{C{?D[^0][?E[^1][?F[^2][?G[^3][Z.]]]]}}"})
	wantPart(t, h, "G", part{"dcba", "?G[^3][Z.]"})
	wantPart(t, h, "Z", part{"dcba", "Z."})
}

func TestMadeTextsOfUnreachedBlocks(t *testing.T) {
	for text, made := range map[string]string{
		"A.,B>A": "A.", "A.,B>B": "A.", "A>C,B>C,C.": "AC.", "A>C,B>A,C.": "AC.", "A>C,B?AC,C.": "AC.", "A?CD,B?CD,C.,D.": "?A[C.][D.]",
		// One way more would meet there, or go back there, but it is not reached.
		"A?CD,B>C,C.,D>C": "(?A[^0][D^0])C.", "A>C,B>C,C?CD,D.": "A{?C[^0][D.]}",
		// What is wild is not reached.
		"A.,B?CD,C>D,D>C": "A.",
	} {
		g := parsed(t, text)
		wantMade(t, g, made)
		pruned, _ := impl.PruneGraph(g)
		wantMade(t, pruned, made)
		wantNoPart(t, text, g, "B")
		for _, b := range pruned {
			frames, _ := impl.FramesAt(pruned, b.Name)
			made, _ := impl.TextFrom(pruned, b.Name)
			wantPart(t, g, b.Name, part{frames, made})
		}
	}
	// 26 blocks of which one is reached.
	g := chainOfAll("A")
	g[0].Next = ""
	wantMade(t, g, "A.")
	wantPart(t, g, "A", part{"", "A."})
	wantNoPart(t, "not reached", g, "Z")
}

func TestMadeTextsOfAllLetters(t *testing.T) {
	wantMade(t, chainOfAll(""), alphabet+".")
	wantMade(t, chainOfAll("A"), "{"+alphabet+"^0}")
	wantMade(t, chainOfAll("Z"), alphabet[:25]+"{Z^0}")
	g := chainOfAll("N")
	wantMade(t, g, alphabet[:13]+"{"+alphabet[13:]+"^0}")
	wantPart(t, g, "N", part{"", "{" + alphabet[13:] + "^0}"})
	wantPart(t, g, "Z", part{"n", "Z^0"})
}

func TestGraphsThatAreNotTame(t *testing.T) {
	for _, text := range []string{
		"A?BC,B>C,C>B", "A?BC,B?DE,C>E,D>A,E?BF,F.", "A?BC,B?CD,C?BD,D.", "A?BC,B>E,C?DE,D.,E>C", "A?WH,H?TW,T>H,W>H", "A>B,B?CD,C>D,D?CE,E?BF,F.", "A?BC,B>D,C>D,D?BC",
		// Tame jumps besides, and blocks that are not reached.
		"A?BC,B?BC,C?CB", "A?BC,B>C,C>B,D.", "B?CD,C>D,D>C,A.",
	} {
		wantNotMade(t, text, parsed(t, text))
	}
}

// mountain returns the graph of A, B, X and so many others, C and so on, which all are children of A where ways meet: each goes on to the two behind it.
// X, behind B, goes on to the second one of these and to the last one. There are at most 21 of them, as W is the last name ahead of X.
func mountain(meets int) []impl.Block {
	g := []impl.Block{{Name: "A", Next: "BC"}, {Name: "B", Next: "CX"}, {Name: "X", Next: "D" + alphabet[meets+1:meets+2]}}
	for i := range meets {
		g = append(g, impl.Block{Name: alphabet[i+2 : i+3], Next: alphabet[i+3 : min(i+5, meets+2)]})
	}
	g[len(g)-1].Next = ""
	return g
}

func TestMadeTextsOfNineFrames(t *testing.T) {
	g := mountain(9)
	wantMade(t, g, "(((((((((?A[?B[^0][?X[^1][^8]]][^0])?C[^0][^1])?D[^0][^1])?E[^0][^1])?F[^0][^1])?G[^0][^1])?H[^0][^1])?I[^0][^1])J^0)K.")
	wantPart(t, g, "B", part{"CDEFGHIJK", "?B[^0][?X[^1][^8]]"})
	wantPart(t, g, "X", part{"CDEFGHIJK", "?X[^1][^8]"})
	wantPart(t, g, "G", part{"HIJK", "?G[^0][^1]"})
	for _, meets := range []int{10, 11, 21} {
		wantTooLarge(t, "more than nine blocks where ways meet", mountain(meets))
	}
}

// nestOfLoops returns the graph of so many blocks of which each goes back to itself and on to the one behind it, and the last one back to the entry; and its text.
func nestOfLoops(n int) ([]impl.Block, string) {
	g, text := chainOfAll("")[:n], ""
	for i := range g {
		g[i].Next = g[i].Name + alphabet[i+1:min(i+2, n)]
		text += "{?" + g[i].Name + "[^0]["
	}
	g[n-1].Next += "A"
	return g, text + "^" + strconv.Itoa(n-1) + strings.Repeat("]}", n)
}

func TestMadeTextsOfNineLoops(t *testing.T) {
	names := ""
	for n := 2; n <= 26; n++ {
		g, text := nestOfLoops(n)
		if n > 9 {
			wantTooLarge(t, "more than nine headers", g)
			continue
		}
		wantMade(t, g, text)
		names = strings.ToLower(g[n-2].Name) + names
		wantPart(t, g, g[n-1].Name, part{names, text[8*(n-1) : len(text)-2*(n-1)]})
	}
}

func TestMadeTextsOfNineFramesOfBothKinds(t *testing.T) {
	// Within all loops but the last one, ways meet behind the last block.
	for n := 2; n <= 10; n++ {
		g, text := nestOfLoops(n)
		g[n-1].Next = "XY"
		g = append(g, parsed(t, "X>Z,Y>Z,Z.")...)
		if n > 9 {
			wantTooLarge(t, "nine headers, and one block where ways meet", g)
			continue
		}
		last := g[n-1].Name
		text = strings.Replace(text, "{?"+last+"[^0][^"+strconv.Itoa(n-1)+"]}", "(?"+last+"[X^0][Y^0])Z.", 1)
		wantMade(t, g, text)
	}
	// Ahead of all blocks where ways meet, one goes back to itself.
	g := mountain(8)
	g[2].Next = "DX"
	wantMade(t, g, "((((((((?A[?B[^0][{?X[^2][^0]}]][^0])?C[^0][^1])?D[^0][^1])?E[^0][^1])?F[^0][^1])?G[^0][^1])?H[^0][^1])I^0)J.")
	wantPart(t, g, "X", part{"CDEFGHIJ", "{?X[^2][^0]}"})
	h := mountain(9)
	h[2].Next = "DX"
	wantTooLarge(t, "a header, and nine blocks where ways meet", h)
}

// backChain returns a graph of so many blocks of which each goes on to the one behind it, and back to itself if it is one of the first headers, or to the last of these.
// The last block goes back to two of them, and the one ahead of it goes nowhere else if jump is so.
func backChain(n int, headers int, jump bool) []impl.Block {
	g := chainOfAll("")[:n]
	for i := range g[:n-1] {
		back := min(i, headers-1)
		g[i].Next += alphabet[back : back+1]
	}
	if jump {
		g[n-2].Next = g[n-1].Name
	}
	g[n-1].Next = alphabet[headers-2 : headers]
	return g
}

func TestMadeTextsOfTwoHundredBytes(t *testing.T) {
	for _, c := range []struct {
		n, headers int
		jump       bool
		length     int
	}{{23, 4, false, 194}, {24, 2, false, 198}, {25, 2, true, 199}, {24, 3, false, 200}, {25, 3, true, 201}, {24, 4, false, 202}, {25, 2, false, 206}, {26, 9, false, 228}} {
		g := backChain(c.n, c.headers, c.jump)
		plain := plainMadeOf(g)
		if len(plain.text) != c.length || plain.deepest != c.headers {
			t.Errorf("the text of %q has %d bytes and %d frames within each other", impl.FormatGraph(g), len(plain.text), plain.deepest)
		}
		if c.length > 200 {
			wantTooLarge(t, "a text of more than 200 bytes", g)
			continue
		}
		wantMade(t, g, plain.text)
		wantPart(t, g, g[c.n-1].Name, part{plain.parts[g[c.n-1].Name].frames, "?" + g[c.n-1].Name + "[^1][^0]"})
	}
}

// The first 200 bytes of a text that is too long may be a text with frames on their own.
func TestMadeTextsThatGoOnTooLong(t *testing.T) {
	for headers := 1; headers <= 6; headers++ {
		g := backChain(23, headers+1, false)
		g[0].Next = "BZ"
		g[22].Next = alphabet[headers:headers+1] + "Z"
		g = append(g, parsed(t, "Z>Y,Y>X,X.")...)
		plain := plainMadeOf(g)
		if len(plain.text) != 192+2*headers || !strings.HasSuffix(plain.text, "][^0])ZYX.") {
			t.Errorf("the text of %q is %q", impl.FormatGraph(g), plain.text)
		}
		if headers > 4 {
			wantTooLarge(t, "a text that goes on too long", g)
			continue
		}
		wantMade(t, g, plain.text)
	}
}

func TestMadeTextsOfNoGraph(t *testing.T) {
	for what, g := range badGraphs() {
		wantNotMade(t, what, g)
	}
}

func TestMadePartsOfNames(t *testing.T) {
	for _, text := range []string{"A>B,B?CD,C>B,D.", "A>A", "A.,B.", "A?BC,B>D,C>D,D."} {
		g := parsed(t, text)
		for _, name := range []string{"", "E", "Z", "a", "b", "AB", "BC", "AA", "A ", " A", ".", ">", "?", "^", "\x00", "\xff", "Ä", "A\x00", strings.Repeat("A", 1000)} {
			wantNoPart(t, text, g, name)
		}
	}
}

// plainMade is what the chapter says about a graph, found with texts alone.
type plainMade struct {
	plainLoops
	flow    flow
	text    string
	parts   map[string]part
	deepest int // how many frames lie within each other at most
}

func plainMadeOf(g []impl.Block) *plainMade {
	p := &plainMade{plainLoops: plainLoopsOf(g), parts: map[string]part{}}
	p.flow = p.plainLoops.flow()
	if p.flow.wild == "" {
		p.resolve(p.marked(g[0].Name))
	}
	return p
}

// marked returns the text of a block in which what a frame or a step is for stands behind its first byte, small for headers, and each block's text stands in < and >, its name ahead.
func (p *plainMade) marked(name string) string {
	jumps := []string{}
	for _, to := range strings.Split(p.next(name), "") {
		switch {
		case strings.Index(p.order, to) <= strings.Index(p.order, name):
			jumps = append(jumps, "^"+strings.ToLower(to))
		case strings.Contains(p.flow.meets, to):
			jumps = append(jumps, "^"+to)
		default:
			jumps = append(jumps, p.marked(to))
		}
	}
	text := name + strings.Join(jumps, "")
	switch len(jumps) {
	case 0:
		text += "."
	case 2:
		text = "?" + name + "[" + jumps[0] + "][" + jumps[1] + "]"
	}
	for _, y := range strings.Split(p.order, "") {
		if p.place(y).parent == name && strings.Contains(p.flow.meets, y) {
			text = "(" + y + text + ")" + p.marked(y)
		}
	}
	if strings.Contains(p.flow.headers, name) {
		text = "{" + strings.ToLower(name) + text + "}"
	}
	return "<" + name + text + ">"
}

// resolve finds the text, its parts and its deepest frame from the text with marks.
func (p *plainMade) resolve(marked string) {
	open, begun, begins := "", "", []int{} // the frames and the blocks whose texts have begun, the innermost one first
	for i := 0; i < len(marked); i++ {
		switch b := marked[i]; b {
		case '(', '{':
			i++
			open = marked[i:i+1] + open
			p.deepest = max(p.deepest, len(open))
			p.text += string(b)
		case ')', '}':
			open = open[1:]
			p.text += string(b)
		case '^':
			i++
			p.text += "^" + strconv.Itoa(strings.IndexByte(open, marked[i]))
		case '<':
			i++
			begun, begins = marked[i:i+1]+begun, append(begins, len(p.text))
			p.parts[begun[:1]] = part{frames: open}
		case '>':
			last := len(begins) - 1
			p.parts[begun[:1]] = part{p.parts[begun[:1]].frames, p.text[begins[last]:]}
			begun, begins = begun[1:], begins[:last]
		default:
			p.text += string(b)
		}
	}
}

// fits reports whether the text is one with frames.
func (p *plainMade) fits() bool {
	return p.flow.wild == "" && len(p.text) <= 200 && p.deepest <= 9
}

// check checks all functions of the chapter on a graph against the plain definitions.
func (p *plainMade) check(t *testing.T) {
	t.Helper()
	if !p.fits() {
		wantNotMade(t, impl.FormatGraph(p.g), p.g)
		return
	}
	wantMade(t, p.g, p.text)
	for _, b := range p.g {
		if p.reached(b.Name) {
			wantPart(t, p.g, b.Name, p.parts[b.Name])
		} else {
			wantNoPart(t, impl.FormatGraph(p.g), p.g, b.Name)
		}
	}
}

// checkDoes checks that the text that is made of the graph, if there is one, does what the graph does, and has each reached block once.
func (p *plainMade) checkDoes(t *testing.T, source *rand.Rand) {
	t.Helper()
	text, ok := impl.MakeText(p.g)
	if !ok {
		return
	}
	if !impl.TextValid(text) || !impl.EachOnce(text) || impl.UsesNumber(text) {
		t.Errorf("MakeText(%q) = %q", impl.FormatGraph(p.g), text)
	}
	names, _ := impl.BlocksIn(text)
	done, reached := strings.Split(names, ""), strings.Split(p.order, "")
	slices.Sort(done)
	slices.Sort(reached)
	if !slices.Equal(done, reached) {
		t.Errorf("MakeText(%q) = %q, but %s are reached", impl.FormatGraph(p.g), text, p.order)
	}
	wantOther(t, p.g, text, "-")
	for range 20 {
		choices := someChoices(source, 20)
		trace, end := plainRun(p.g, choices)
		if run := plainTextRun(text, choices); run.trace != trace || run.end != end {
			t.Errorf("with %q %q does %q, and its text %q does %q", choices, impl.FormatGraph(p.g), trace, text, run.trace)
		}
	}
}

// checkNeeded checks that there are as many frames and steps as blocks where ways meet, headers, and jumps back or to blocks where ways meet.
func (p *plainMade) checkNeeded(t *testing.T) {
	t.Helper()
	steps := len(p.jumps(true))
	for _, jump := range p.jumps(false) {
		if strings.Contains(p.flow.meets, jump[1:]) {
			steps++
		}
	}
	want := []int{len(p.flow.meets), len(p.flow.headers), steps}
	if got, ok := impl.CountNeeded(p.g); p.fits() && (!slices.Equal(got, want) || !ok) {
		t.Errorf("CountNeeded(%q) = %v, %v, want %v", impl.FormatGraph(p.g), got, ok, want)
	}
}

func TestMadeTextsOfAllSmallGraphs(t *testing.T) {
	source := rand.New(rand.NewSource(9))
	for _, names := range []string{"Q", "BA", "CAB"} {
		allGraphs(names, func(g []impl.Block) {
			p := plainMadeOf(g)
			p.check(t)
			p.checkDoes(t, source)
			p.checkNeeded(t)
		})
	}
}

// denseGraph returns a tame graph in which most blocks branch, on to one of the next few blocks or back to one of a few headers.
func denseGraph(source *rand.Rand, n int) []impl.Block {
	g := make([]impl.Block, n)
	names := ""
	for i, k := range source.Perm(26)[:n] {
		names += alphabet[k : k+1]
		g[i].Name = alphabet[k : k+1]
	}
	forward := 2 + source.Intn(4)
	for i := range g {
		g[i].Next = names[min(i+1, n):min(i+2, n)]
		if k := i + 2 + source.Intn(3); k < n && source.Intn(forward) == 0 {
			g[i].Next += names[k : k+1]
		}
	}
	p := plainTreeOf(g)
	heads := ""
	for i, b := range g {
		if len(heads) < 4 && source.Intn(n/3+1) == 0 {
			heads += b.Name
		}
		// The entry dominates all blocks, so there is always one to go back to.
		head := g[0].Name
		for _, name := range strings.Split(heads, "") {
			if strings.Contains(p.dominators[b.Name], name) && source.Intn(2) == 0 {
				head = name
			}
		}
		if len(b.Next) < 2 && source.Intn(9) > 0 {
			g[i].Next += head
		}
		if len(g[i].Next) == 2 && source.Intn(2) == 0 {
			g[i].Next = g[i].Next[1:] + g[i].Next[:1]
		}
	}
	source.Shuffle(n-1, func(i, k int) { g[i+1], g[k+1] = g[k+1], g[i+1] })
	return g
}

func TestMadeTextsOfLargerGraphs(t *testing.T) {
	source := rand.New(rand.NewSource(10))
	made, wild, deep, long := 0, 0, 0, 0
	for round := range 600 {
		var g []impl.Block
		switch round % 3 {
		case 0:
			g = tameGraph(source, 2+source.Intn(25))
		case 1:
			// A text of more than 200 bytes has nearly all letters.
			g = denseGraph(source, []int{2 + source.Intn(25), 24 + source.Intn(3)}[source.Intn(2)])
		default:
			g = someGraph(source, 4+source.Intn(8), 1+source.Intn(4))
		}
		p := plainMadeOf(g)
		p.check(t)
		p.checkDoes(t, source)
		p.checkNeeded(t)
		switch {
		case p.fits():
			made++
		case p.flow.wild != "":
			wild++
		case p.deepest > 9:
			deep++
		default:
			long++
		}
	}
	if made < 300 || wild < 20 || deep < 10 || long < 50 {
		t.Errorf("%d texts are made, %d graphs are not tame, %d texts have more than nine frames within each other, %d others more than 200 bytes", made, wild, deep, long)
	}
}

func TestMadeTextsKeepNoState(t *testing.T) {
	whole := append(parsed(t, "A>B,B?CD,C>B,D.,E>D"), impl.Block{Name: "X", Next: "Y"})
	before := slices.Clone(whole)
	g := whole[:5]
	for range 2 {
		needed, _ := impl.CountNeeded(g)
		needed = needed[:cap(needed)]
		for i := range needed {
			needed[i] = 7
		}
		wantMade(t, g, "A{?B[C^0][D.]}")
		wantPart(t, g, "C", part{"b", "C^0"})
		wantMade(t, parsed(t, "A?BC,B>D,C>D,D."), "(?A[B^0][C^0])D.")
		wantNotMade(t, "wild", parsed(t, "A?BC,B>C,C>B"))
		wantNoPart(t, "not reached", g, "E")
	}
	if !slices.Equal(whole, before) {
		t.Errorf("texts that are made change their graph: %v", whole)
	}
}
