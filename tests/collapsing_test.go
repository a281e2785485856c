package tests

import (
	"fmt"
	"math"
	"math/rand"
	"slices"
	"strings"
	"testing"
	"testing/synctest"

	"loop.example/structuredjumps/impl"
)

// knotted returns the knots of a text, which need not be valid.
func knotted(text string) []impl.Knot {
	list := []impl.Knot{}
	for _, part := range strings.Split(text, ",") {
		blocks, next, _ := strings.Cut(part, ">")
		list = append(list, impl.Knot{Blocks: blocks, Next: next})
	}
	return list
}

// wantKnots checks a result that is knots and true.
func wantKnots(t *testing.T, call string, got []impl.Knot, ok bool, want string) {
	t.Helper()
	if !slices.Equal(got, knotted(want)) || !ok {
		t.Errorf("%s = %q, %v; want %q", call, got, ok, want)
	}
}

// wantSteps checks the steps that can be done, and that no others can be.
func wantSteps(t *testing.T, list []impl.Knot, want string) {
	t.Helper()
	call := impl.FormatKnots(list) + ": "
	steps, ok := impl.StepsOf(list)
	if strings.Join(steps, ", ") != want || !ok {
		t.Errorf("%sStepsOf = %q, %v; want %q", call, steps, ok, want)
	}
	for _, door := range strings.Split(alphabet, "") {
		for _, step := range []string{"drop " + door, "join " + door} {
			can := slices.Contains(steps, step)
			if got, ok := impl.DoStep(list, step); ok != can || (len(got) > 0) != can {
				t.Errorf("%sDoStep %s = %q, %v", call, step, got, ok)
			}
		}
	}
}

// somePicks are picks of several kinds: none, some that are used up and many, small and as large as can be.
func somePicks() [][]int {
	ones, large, mixed := make([]int, 100), make([]int, 100), make([]int, 100)
	for i := range 100 {
		ones[i], large[i], mixed[i] = 1, math.MaxInt-i, i*i%7
	}
	return [][]int{nil, {}, {0}, {1}, {2}, {3}, {0, 1}, {1, 0, 2}, {5, 3, 1}, {25, 26, 27}, {math.MaxInt}, ones, large, mixed}
}

// A collapsing is what the functions of valid knots return.
type collapsing struct {
	steps string
	left  string
	count int
}

// wantCollapsing checks all functions of valid knots but what is behind one step.
func wantCollapsing(t *testing.T, list []impl.Knot, want collapsing) {
	t.Helper()
	call := impl.FormatKnots(list) + ": "
	if !impl.KnotsValid(list) {
		t.Errorf("%sKnotsValid = false", call)
	}
	wantSteps(t, list, want.steps)
	left, ok := impl.Collapse(list)
	wantKnots(t, call+"Collapse", left, ok, want.left)
	if got := impl.CountSteps(list); got != want.count {
		t.Errorf("%sCountSteps = %d, want %d", call, got, want.count)
	}
	for _, picks := range somePicks() {
		left, ok := impl.CollapseBy(list, picks)
		wantKnots(t, fmt.Sprintf("%sCollapseBy %d", call, picks), left, ok, want.left)
	}
	wantNoPicks(t, list)
}

// wantNoPicks checks that picks of which one is negative leave nothing, wherever it stands.
func wantNoPicks(t *testing.T, list []impl.Knot) {
	t.Helper()
	behind := make([]int, 101)
	behind[100] = -1
	for _, picks := range [][]int{{-1}, {math.MinInt}, {0, -1}, {-1, 0}, {1, -2, 3}, {0, 0, 0, -3}, behind} {
		if left, ok := impl.CollapseBy(list, picks); len(left) != 0 || ok {
			t.Errorf("%s: CollapseBy %d = %q, %v", impl.FormatKnots(list), picks, left, ok)
		}
	}
}

// wantCollapsings checks some knots, by their texts.
func wantCollapsings(t *testing.T, want map[string]collapsing) {
	t.Helper()
	for text, c := range want {
		list := knotted(text)
		if got := impl.FormatKnots(list); got != text {
			t.Errorf("FormatKnots(%q) = %q", text, got)
		}
		wantCollapsing(t, list, c)
	}
}

// wantStepsDone checks what is behind some steps of the knots of a text.
func wantStepsDone(t *testing.T, text string, want map[string]string) {
	t.Helper()
	for step, behind := range want {
		got, ok := impl.DoStep(knotted(text), step)
		wantKnots(t, fmt.Sprintf("DoStep(%q, %q)", text, step), got, ok, behind)
	}
}

// wantKnot checks the functions of a graph; the doors are empty if one knot is left.
func wantKnot(t *testing.T, g []impl.Block, knots string, doors string) {
	t.Helper()
	call := impl.FormatGraph(g) + ": "
	list, ok := impl.KnotsOf(g)
	wantKnots(t, call+"KnotsOf", list, ok, knots)
	if !impl.KnotsValid(list) {
		t.Errorf("%sKnotsValid of KnotsOf = false", call)
	}
	if got := impl.IsKnot(g); got != (doors == "") {
		t.Errorf("%sIsKnot = %v", call, got)
	}
	wild, ok := impl.WildDoors(g)
	wantText(t, call+"WildDoors", wild, ok, doors, doors != "")
}

// wantNoKnots checks all functions of knots that are not valid.
func wantNoKnots(t *testing.T, what string, list []impl.Knot) {
	t.Helper()
	if impl.KnotsValid(list) {
		t.Errorf("%s: KnotsValid = true", what)
	}
	if steps, ok := impl.StepsOf(list); len(steps) != 0 || ok {
		t.Errorf("%s: StepsOf = %q, %v", what, steps, ok)
	}
	for _, step := range []string{"", "drop A", "drop B", "drop C", "join A", "join B", "join C", "drop a", "drop "} {
		if left, ok := impl.DoStep(list, step); len(left) != 0 || ok {
			t.Errorf("%s: DoStep %q = %q, %v", what, step, left, ok)
		}
	}
	if left, ok := impl.Collapse(list); len(left) != 0 || ok {
		t.Errorf("%s: Collapse = %q, %v", what, left, ok)
	}
	for _, picks := range [][]int{nil, {0}, {3, 1}, {-1}} {
		if left, ok := impl.CollapseBy(list, picks); len(left) != 0 || ok {
			t.Errorf("%s: CollapseBy %d = %q, %v", what, picks, left, ok)
		}
	}
	if count := impl.CountSteps(list); count != -1 {
		t.Errorf("%s: CountSteps = %d", what, count)
	}
}

func TestCollapsingOfTheDocument(t *testing.T) {
	wantKnot(t, parsed(t, "A>B,B?CD,C>B,D."), "A>B,B>CD,C>B,D>", "")
	wantKnot(t, parsed(t, "A?BC,B>C,C>B"), "A>BC,B>C,C>B", "ABC")
	wantKnot(t, parsed(t, "A?BD,B>C,C>B,D>B"), "A>BD,B>C,C>B,D>B", "")
	wantCollapsings(t, map[string]collapsing{
		"A>B,B>CD,C>B,D>":  {"join C, join D", "ABCD>", 4},
		"A>BC,B>C,C>B":     {"", "A>BC,B>C,C>B", 0},
		"A>BD,B>C,C>B,D>B": {"join C, join D", "ABCD>", 4},
	})
}

func TestFirstKnotIsNeverJoined(t *testing.T) {
	wantCollapsings(t, map[string]collapsing{
		"A>": {"", "A>", 0}, "Z>": {"", "Z>", 0}, "CAB>": {"", "CAB>", 0}, "A>A": {"drop A", "A>", 1}, "CAB>C": {"drop C", "CAB>", 1},
		// Just one other knot goes on to it.
		"A>B,B>A": {"join B", "AB>", 2}, "B>A,A>B": {"join A", "BA>", 2}, "A>B,B>C,C>A": {"join B, join C", "ABC>", 3}, "A>BC,B>,C>A": {"join B, join C", "ABC>", 3}, "CAZ>B,BY>C": {"join B", "CABYZ>", 2}, "A>BC,B>C,C>AB": {"", "A>BC,B>C,C>AB", 0}, "D>BC,B>C,C>BD": {"", "D>BC,B>C,C>BD", 0},
		// Several go on to it, or it does itself.
		"A>B,B>AC,C>A": {"join B, join C", "ABC>", 4}, "M>AZ,Z>AM,A>MZ": {"", "M>AZ,Z>AM,A>MZ", 0}, "A>AB,B>": {"drop A, join B", "AB>", 2}, "A>AB,B>A": {"drop A, join B", "AB>", 3}, "BZ>AB,AC>B": {"drop B, join A", "BACZ>", 3}, "M>AMZ,Z>AM,A>MZ": {"drop M", "M>AZ,Z>AM,A>MZ", 1}, "A>ABC,B>C,C>B": {"drop A", "A>BC,B>C,C>B", 1},
	})
}

func TestKnotsThatGoOnToThemselves(t *testing.T) {
	wantCollapsings(t, map[string]collapsing{
		// Just one other knot goes on to them, so they can be joined as soon as they do not.
		"A>B,B>B": {"drop B", "AB>", 2}, "A>B,B>BC,C>": {"drop B, join C", "ABC>", 3}, "A>B,BC>BD,D>B": {"drop B, join D", "ABCD>", 4}, "A>AB,B>BC,C>C": {"drop A, drop B, drop C", "ABC>", 5}, "C>A,AB>A": {"drop A", "CAB>", 2},
		// Two do.
		"A>BC,B>BC,C>B": {"drop B", "A>BC,B>C,C>B", 1}, "A>ABC,B>ABC,C>ABC": {"drop A, drop B, drop C", "A>BC,B>AC,C>AB", 3}, "A>BC,B>C,C>C": {"join B, drop C", "ABC>", 3}, "M>AMZ,Z>AMZ,A>AMZ": {"drop M, drop Z, drop A", "M>AZ,Z>AM,A>MZ", 3},
	})
	wantStepsDone(t, "A>B,B>B", map[string]string{"drop B": "A>B,B>"})
	wantStepsDone(t, "BZ>AB,AC>AB", map[string]string{"drop B": "BZ>A,AC>AB", "drop A": "BZ>AB,AC>B"})
	wantStepsDone(t, "A>ABC,B>ABC,C>ABC", map[string]string{"drop A": "A>BC,B>ABC,C>ABC", "drop B": "A>ABC,B>AC,C>ABC", "drop C": "A>ABC,B>ABC,C>AB"})
	// Others that go on to each other go on to themselves when they are joined.
	wantStepsDone(t, "A>B,B>C,C>B", map[string]string{"join C": "A>B,BC>B"})
	wantStepsDone(t, "A>B,B>A", map[string]string{"join B": "AB>A"})
}

func TestDoorsToWhichSeveralKnotsGoOn(t *testing.T) {
	wantCollapsings(t, map[string]collapsing{
		"A>BC,B>,C>": {"join B, join C", "ABC>", 2}, "A>BC,B>C,C>": {"join B", "ABC>", 2}, "A>BC,B>D,C>D,D>": {"join B, join C", "ABCD>", 3}, "A>BCD,B>D,C>D,D>": {"join B, join C", "ABCD>", 3}, "A>BC,B>CD,C>BE,D>,E>": {"join D, join E", "A>BC,BD>C,CE>B", 2},
		"A>BC,B>BD,C>D,D>AC": {"drop B", "AB>CD,C>D,D>AC", 2}, "A>B,B>CD,C>D,D>C": {"join B", "AB>CD,C>D,D>C", 1}, "A>BC,B>E,C>DE,D>,E>C": {"join B, join D", "AB>CE,CD>E,E>C", 2}, "A>B,B>CD,C>D,D>CE,E>BF,F>": {"join E, join F", "A>B,B>CD,C>D,DEF>BC", 2},
	})
}

func TestBlocksOfKnotsThatAreJoined(t *testing.T) {
	// The door stays ahead of all others, which are in the order of the alphabet.
	wantStepsDone(t, "A>D,D>C,C>B,B>", map[string]string{"join D": "AD>C,C>B,B>", "join C": "A>D,DC>B,B>", "join B": "A>D,D>C,CB>"})
	wantStepsDone(t, "Z>A,A>M,M>", map[string]string{"join A": "ZA>M,M>", "join M": "Z>A,AM>"})
	wantStepsDone(t, "MBY>D,DACZ>M", map[string]string{"join D": "MABCDYZ>M"})
	wantStepsDone(t, "MAZ>D,DBY>C,CX>", map[string]string{"join D": "MABDYZ>C,CX>", "join C": "MAZ>D,DBCXY>"})
	// The knot to which one is joined stays where it stands, ahead of it or behind it.
	wantStepsDone(t, "A>CD,B>,C>B,D>", map[string]string{"join B": "A>CD,CB>,D>", "join C": "AC>BD,B>,D>", "join D": "AD>C,B>,C>B"})
	wantStepsDone(t, "A>E,B>,C>B,D>C,E>D", map[string]string{"join B": "A>E,CB>,D>C,E>D", "join C": "A>E,B>,DC>B,E>D", "join D": "A>E,B>,C>B,ED>C", "join E": "AE>D,B>,C>B,D>C"})
}

func TestNextOfKnotsThatAreJoined(t *testing.T) {
	// Each door once, in the order of the alphabet, and without the one that is gone.
	wantStepsDone(t, "A>BC,B>CD,C>D,D>", map[string]string{"join B": "AB>CD,C>D,D>"})
	wantStepsDone(t, "A>BDX,B>CEZ,C>,D>,E>,X>,Z>", map[string]string{"join B": "AB>CDEXZ,C>,D>,E>,X>,Z>", "join X": "AX>BD,B>CEZ,C>,D>,E>,Z>"})
	wantStepsDone(t, "A>BCDE,B>CDE,C>,D>,E>", map[string]string{"join B": "AB>CDE,C>,D>,E>"})
	wantStepsDone(t, "A>BC,B>AC,C>A", map[string]string{"join B": "AB>AC,C>A"})
	wantStepsDone(t, "A>B,B>C,C>AB", map[string]string{"join C": "A>B,BC>AB"})
	wantStepsDone(t, "A>AB,B>", map[string]string{"join B": "AB>A", "drop A": "A>B,B>"})
	wantStepsDone(t, "A>AB,B>A", map[string]string{"join B": "AB>A"})
	// When both went on to a door, one knot less does, and it may be that it is the last one.
	wantCollapsings(t, map[string]collapsing{"AB>CD,C>D,D>": {"join C", "ABCD>", 2}, "ABC>D,D>": {"join D", "ABCD>", 1}, "A>BC,B>CD,C>D,D>": {"join B", "ABCD>", 3}})
}

func TestOrderOfSteps(t *testing.T) {
	// It is that of the knots, whatever their doors and the kinds are.
	wantSteps(t, knotted("M>ABZ,Z>Z,B>,A>A"), "drop Z, join B, drop A")
	wantSteps(t, knotted("M>ABMZ,A>,Z>,B>"), "drop M, join A, join Z, join B")
	wantSteps(t, knotted("A>DE,E>CE,D>,C>"), "drop E, join D, join C")
	wantSteps(t, knotted("QA>Z,ZB>Y,YC>X,XD>Z"), "join Y, join X")
}

func TestStepsThatAreNone(t *testing.T) {
	for _, list := range [][]impl.Knot{knotted("A>AB,B>BC,CE>B"), knotted("A>B,B>BCD,CE>B,D>"), knotted("A>A"), knotted("A>")} {
		for _, step := range []string{
			"", " ", "drop", "join", "drop ", "join ", "dropA", "joinC", "drop  A", "drop A ", " drop A", "drop a", "drop AA", "drop AB", "join CD", "join CE", "join E", "drop E", "join c", "join C ", "join  C", " join C", "Drop A", "JOIN C", "A", "C", "drop A\n", "drop B, join C", "drop B,join C", "drop\x00A", "drop \xc1", "join \xff", "drop Ä", "drop?", "step A", strings.Repeat("drop A", 100000),
		} {
			if got, ok := impl.DoStep(list, step); len(got) != 0 || ok {
				t.Errorf("DoStep(%q, %.40q) = %q, %v", list, step, got, ok)
			}
		}
	}
}

func TestKnotsThatAreValid(t *testing.T) {
	for _, text := range []string{
		"A>", "A>A", "BA>", "BA>B", "CAB>", "A>B,B>", "A>AB,B>AB", "AC>B,BD>", "Z>BY,Y>Z,B>YZ", alphabet + ">", alphabet + ">A", "Z" + alphabet[:25] + ">Z", "MAZ>B,BCY>M",
		// A knot stands behind the first one that leads to it, or ahead of it.
		"A>C,B>,C>B", "A>D,B>,C>B,D>C", "Z>Y,X>,Y>X", "A>E,B>C,C>,D>B,E>D", "A>C,B>BC,C>B",
	} {
		if !impl.KnotsValid(knotted(text)) {
			t.Errorf("KnotsValid(%q) = false", text)
		}
	}
	// A nil Next and blocks past the length of the list make no difference.
	if list := knotted("A>B,B>,C>D"); !impl.KnotsValid(list[:2]) || impl.KnotsValid(list) {
		t.Errorf("KnotsValid(%q) and its beginning", list)
	}
}

// badKnots are lists that are no knots, by what is wrong with them.
func badKnots() map[string][]impl.Knot {
	bad := map[string][]impl.Knot{"nil": nil, "empty": {}, "27 knots": append(knotsOfAll("A"), impl.Knot{Blocks: "A"}), "100000 knots": make([]impl.Knot, 100000), "long blocks": {{Blocks: strings.Repeat("A", 100000)}}, "long next": {{Blocks: "A", Next: strings.Repeat("A", 100000)}}, "all bytes": {{Blocks: everyByte()}}, "next of all bytes": {{Blocks: "A", Next: everyByte()}}}
	for what, texts := range map[string][]string{
		"no block":            {"", ">A", "A>B,", "A>B,B>,", ",A>", "A>A,>"},
		"no letter":           {"a", "@", "[", "1", " ", "\x00", "\xc1", "Ä", "-", "Aa", "A1", "A ", "A@", "A[", "A\x00", "A\xc1", "A\xff", " A", "1A", "aA", "A>B,b", "A>B,B>,b>", "Ab>"},
		"others out of order": {"ACB", "CBA", "ABDC", "ZYX", "A>D,DCB>", "ADBC>", "A>B,BAC>"},
		"a block twice":       {"AA", "ABB", "BAB", "ABA", "CABC", "A>B,BB>", "A>B,BCC>", "A>B,BAB>"},
		"a block of two":      {"A>A,A>", "A>,A>", "AB>B,B>", "AC>B,BC>", "A>B,BA>", "AC>B,BA>", "A>B,B>C,CA>", "A>B,B>C,CB>", "A>B,BX>C,CX>", "AB>,B>", "A>B,B>,B>", "A>B,B>A,B>A"},
		"next is no door":     {"A>B", "A>Z", "AB>B", "AB>AB", "AC>B,BD>C", "AC>B,BD>D", "AC>BC,B>", "A>B,B>C", "A>a", "A>@", "A>[", "A> ", "A>A ", "A> A", "A>1A", "A>A[", "A>Aa", "A>\x00A", "A>A\xc1", "A>\xc1", "A>AÄ", "A>>", "A>B,B>A>", "A>.", "A>B,B>AX"},
		"next out of order":   {"A>BA,B>", "A>CB,B>,C>", "A>B,B>BA", "A>BDC,B>,C>,D>", "A>DCB,B>,C>,D>", "Z>ZA,A>"},
		"a door twice":        {"A>AA", "A>BB,B>", "A>B,B>AAB", "A>ABB,B>", "A>ABA,B>", "A>B,B>AA"},
		"not led to":          {"A>,B>", "A>A,B>", "A>,B>A", "A>,B>AB", "A>A,B>B", "A>B,B>A,C>A", "A>B,B>A,C>ABC", "B>,A>B", "A>C,B>C,C>A", "A>B,B>,C>B,D>C"},
		"not led to, though others go on to them": {"A>,B>C,C>B", "A>B,B>,C>D,D>C", "A>,B>C,C>D,D>B", "A>B,B>A,C>CD,D>ACD", "A>,C>B,B>C", "A>D,B>C,C>B,D>A"},
	} {
		for _, text := range texts {
			bad[fmt.Sprintf("%s: %q", what, text)] = knotted(text)
		}
	}
	return bad
}

// everyByte returns all bytes in order.
func everyByte() string {
	all := make([]byte, 256)
	for i := range all {
		all[i] = byte(i)
	}
	return string(all)
}

// knotsOfAll returns the knots of single blocks of all letters of which each goes on to the one behind it, and the last one as last tells.
func knotsOfAll(last string) []impl.Knot {
	list := []impl.Knot{}
	for _, b := range chainOfAll(last) {
		list = append(list, impl.Knot{Blocks: b.Name, Next: b.Next})
	}
	return list
}

func TestKnotsThatAreNotValid(t *testing.T) {
	for what, list := range badKnots() {
		wantNoKnots(t, what, list)
	}
}

func TestFormatKnots(t *testing.T) {
	for _, none := range [][]impl.Knot{nil, {}} {
		if got := impl.FormatKnots(none); got != "-" {
			t.Errorf("FormatKnots(%v) = %q", none, got)
		}
	}
	// The text is that of any list, valid or not.
	for _, text := range []string{"A>", "CAB>C", "A>B,B>", "AC>B,BD>AB", ">", ">,>", ">A,B>", "a>b", "ACB>ZA,A>A", "->", "A>,B>C,C>B"} {
		if got := impl.FormatKnots(knotted(text)); got != text {
			t.Errorf("FormatKnots(%q) = %q", text, got)
		}
	}
	if got := impl.FormatKnots([]impl.Knot{{Blocks: "\xff,", Next: ">\x00"}, {}}); got != "\xff,>>\x00,>" {
		t.Errorf("FormatKnots = %q", got)
	}
}

func TestKnotsOfGraphs(t *testing.T) {
	for text, want := range map[string]string{
		"A.": "A>", "Z.": "Z>", "A>A": "A>A", "A?BA,B.": "A>AB,B>", "B>A,A>B": "B>A,A>B", "D?CA,C?DA,A.": "D>AC,C>AD,A>",
		// The order is that of the graph, which need not be that in which blocks are come to; Next is in that of the alphabet.
		"M?ZA,B.,A>C,Z.,Y>M,C>Z": "M>AZ,A>C,Z>,C>Z", "A>D,B.,C>B,D>C": "A>D,B>,C>B,D>C", "Z?YX,X?ZY,Y?XZ": "Z>XY,X>YZ,Y>XZ",
		// Blocks that are not reached are left out.
		"A.,B.": "A>", "A.,B>A": "A>", "A.,B>C,C>B": "A>", "A>B,C?AB,B.,D>D": "A>B,B>", "B>B,A?AB": "B>B", "A?BC,B>D,C>D,D.,E>A": "A>BC,B>D,C>D,D>",
	} {
		got, ok := impl.KnotsOf(parsed(t, text))
		wantKnots(t, fmt.Sprintf("KnotsOf(%q)", text), got, ok, want)
	}
}

func TestGraphsThatCollapseToOneKnot(t *testing.T) {
	for text, knots := range map[string]string{
		"A.": "A>", "A>A": "A>A", "A>B,B>A": "A>B,B>A", "A?AB,B?BA": "A>AB,B>AB", "A?BC,B>D,C>D,D.": "A>BC,B>D,C>D,D>", "A>B,B?CF,C?DE,D>B,E>C,F.": "A>B,B>CF,C>DE,D>B,E>C,F>", "D>C,A?DE,B?CA,C>B,E.": "D>C,A>DE,B>AC,C>B,E>", "A?BC,B>A,C>A": "A>BC,B>A,C>A",
		// What is not reached does not count, wherever it goes on to.
		"A.,B>A": "A>", "A.,B>B": "A>", "A.,B?CD,C>D,D>C": "A>", "A>B,B.,C?DE,D>E,E>D": "A>B,B>", "A>B,B>C,C>B,D>C": "A>B,B>C,C>B", "A>B,B>C,C?AB,E?BD,D?CA": "A>B,B>C,C>AB",
	} {
		wantKnot(t, parsed(t, text), knots, "")
	}
}

func TestGraphsOfWhichSeveralKnotsAreLeft(t *testing.T) {
	for text, want := range map[string][2]string{
		"A?BC,B?CD,C?BD,D.": {"A>BC,B>CD,C>BD,D>", "ABCD"}, "A?BC,B>E,C?DE,D.,E>C": {"A>BC,B>E,C>DE,D>,E>C", "ACE"}, "A>B,B?CD,C>D,D?CE,E?BF,F.": {"A>B,B>CD,C>D,D>CE,E>BF,F>", "ABCD"}, "A?BC,B>D,C>B,D?DC": {"A>BC,B>D,C>B,D>CD", "ABC"}, "A?WH,H?TW,T>H,W>H": {"A>HW,H>TW,T>H,W>H", "AHW"},
		// The first one is left, though it is alone ahead of all others; the doors are in the order of the knots.
		"A>B,B?CD,C>D,D>C": {"A>B,B>CD,C>D,D>C", "ACD"}, "Z?CB,C>B,B>C": {"Z>BC,C>B,B>C", "ZCB"}, "Z?BC,B>C,A.,C?BA": {"Z>BC,B>C,A>,C>AB", "ZBC"}, "B?CA,C>A,A?BC": {"B>AC,C>A,A>BC", "BCA"},
		// What is not reached does not count.
		"A?BC,B>C,C>B,D?EF,E>F,F>E": {"A>BC,B>C,C>B", "ABC"}, "A?BC,D>B,B>C,E?CA,C>B": {"A>BC,B>C,C>B", "ABC"},
	} {
		wantKnot(t, parsed(t, text), want[0], want[1])
	}
}

func TestCollapsingOfNoGraph(t *testing.T) {
	for what, g := range badGraphs() {
		if list, ok := impl.KnotsOf(g); len(list) != 0 || ok {
			t.Errorf("%s: KnotsOf = %q, %v", what, list, ok)
		}
		if impl.IsKnot(g) {
			t.Errorf("%s: IsKnot = true", what)
		}
		doors, ok := impl.WildDoors(g)
		wantText(t, what+": WildDoors", doors, ok, "", false)
	}
}

func TestKnotsOfAllLetters(t *testing.T) {
	joins := []string{}
	for _, door := range strings.Split(alphabet[1:], "") {
		joins = append(joins, "join "+door)
	}
	wantCollapsing(t, knotsOfAll(""), collapsing{strings.Join(joins, ", "), alphabet + ">", 25})
	wantCollapsing(t, knotsOfAll("A"), collapsing{strings.Join(joins, ", "), alphabet + ">", 26})
	wantKnot(t, chainOfAll("A"), impl.FormatKnots(knotsOfAll("A")), "")
	for _, onward := range []byte("lr") {
		// The first knot goes on to itself, and does so again behind all joins but the last one.
		list, _ := impl.KnotsOf(chainOfBranches(onward))
		wantCollapsing(t, list, collapsing{"drop A, " + strings.Join(joins, ", "), alphabet + ">", 50})
	}
	// All go on to all, themselves included.
	full, drops := knotsOfAll(""), []string{}
	for i, k := range full {
		full[i].Next = alphabet
		drops = append(drops, "drop "+k.Blocks)
	}
	left := slices.Clone(full)
	for i, k := range left {
		left[i].Next = strings.Replace(alphabet, k.Blocks, "", 1)
	}
	wantCollapsing(t, full, collapsing{strings.Join(drops, ", "), impl.FormatKnots(left), 26})
	// Each of B to Z goes on to the ones beside it but A, and A to B and Z.
	ring := chainOfAll("Y")
	for i := 1; i < 25; i++ {
		ring[i].Next = alphabet[i+1:i+2] + strings.Trim(alphabet[i-1:i], "A")
	}
	ring[0].Next = "ZB"
	knots := knotsOfAll("Y")
	for i := 2; i < 25; i++ {
		knots[i].Next = alphabet[i-1:i] + knots[i].Next
	}
	knots[0].Next = "BZ"
	wantKnot(t, ring, impl.FormatKnots(knots), alphabet)
}

// plainKnots reports whether a list is knots, by what the chapter says of each of its bytes.
func plainKnots(list []impl.Knot) bool {
	blocks, doors, led := "", "", ""
	for _, k := range list {
		if k.Blocks == "" || lettersIn(k.Blocks[1:]) != k.Blocks[1:] {
			return false
		}
		blocks += k.Blocks
		doors += k.Blocks[:1]
	}
	for _, k := range list {
		if lettersIn(k.Next) != k.Next || strings.Trim(k.Next, doors) != "" {
			return false
		}
	}
	for range list {
		for i, k := range list {
			if i == 0 || strings.Contains(led, k.Blocks[:1]) {
				led += k.Blocks[:1] + k.Next
			}
			led = lettersIn(led)
		}
	}
	return len(list) > 0 && len(lettersIn(blocks)) == len(blocks) && led == lettersIn(doors)
}

// lettersIn returns the letters that stand in a text, each once and in order.
func lettersIn(text string) string {
	return strings.Join(slices.DeleteFunc(strings.Split(alphabet, ""), func(name string) bool { return !strings.Contains(text, name) }), "")
}

// plainSteps returns the steps that can be done.
func plainSteps(list []impl.Knot) []string {
	steps := []string{}
	for i, k := range list {
		door, from := k.Blocks[:1], ""
		for _, other := range list {
			if strings.Contains(other.Next, door) {
				from += other.Blocks[:1]
			}
		}
		if strings.Contains(from, door) {
			steps = append(steps, "drop "+door)
		} else if i > 0 && len(from) == 1 {
			steps = append(steps, "join "+door)
		}
	}
	return steps
}

// plainDone returns the knots behind a step that can be done.
func plainDone(list []impl.Knot, step string) []impl.Knot {
	kind, door, _ := strings.Cut(step, " ")
	gone := impl.Knot{}
	behind := []impl.Knot{}
	for _, k := range list {
		if kind == "join" && k.Blocks[:1] == door {
			gone = k
		} else {
			behind = append(behind, k)
		}
	}
	for i, k := range behind {
		if strings.Contains(k.Next, door) {
			behind[i] = impl.Knot{Blocks: k.Blocks[:1] + lettersIn(k.Blocks[1:]+gone.Blocks), Next: strings.Replace(lettersIn(k.Next+gone.Next), door, "", 1)}
			if kind == "drop" && k.Blocks[:1] != door {
				behind[i] = k
			}
		}
	}
	return behind
}

// plainCollapsing returns what the functions of valid knots return.
func plainCollapsing(list []impl.Knot) collapsing {
	want := collapsing{steps: strings.Join(plainSteps(list), ", ")}
	for steps := plainSteps(list); len(steps) > 0; steps = plainSteps(list) {
		list = plainDone(list, steps[0])
		want.count++
	}
	want.left = impl.FormatKnots(list)
	return want
}

// checkCollapsing checks all functions of valid knots against the plain definitions.
func checkCollapsing(t *testing.T, list []impl.Knot) {
	t.Helper()
	wantCollapsing(t, list, plainCollapsing(list))
	for _, step := range plainSteps(list) {
		behind := plainDone(list, step)
		got, ok := impl.DoStep(list, step)
		wantKnots(t, impl.FormatKnots(list)+": "+step, got, ok, impl.FormatKnots(behind))
		if !impl.KnotsValid(got) {
			t.Errorf("%s: KnotsValid behind %s = false", impl.FormatKnots(list), step)
		}
	}
}

// checkKnotOf checks all functions of a graph, and that it is tame exactly if one knot is left.
func checkKnotOf(t *testing.T, g []impl.Block) {
	t.Helper()
	list := []impl.Knot{}
	for _, b := range g {
		if strings.Contains(closure(g), b.Name) {
			list = append(list, impl.Knot{Blocks: b.Name, Next: lettersIn(b.Next)})
		}
	}
	doors := ""
	left := knotted(plainCollapsing(list).left)
	for _, k := range left {
		doors += k.Blocks[:1]
		// No way comes into a knot but by its door.
		for _, name := range strings.Split(k.Blocks, "") {
			if !impl.Dominates(g, k.Blocks[:1], name) {
				t.Errorf("%s: %s is left", impl.FormatGraph(g), k.Blocks)
			}
		}
	}
	if (len(left) == 1) != impl.IsTame(g) {
		t.Errorf("%s: %q is left, and IsTame = %v", impl.FormatGraph(g), left, impl.IsTame(g))
	}
	if len(left) == 1 {
		doors = ""
	}
	wantKnot(t, g, impl.FormatKnots(list), doors)
	checkCollapsing(t, list)
}

// checkAllOrders checks that the same is left by whatever steps that can be done, and returns how many lists are come to.
func checkAllOrders(t *testing.T, list []impl.Knot) int {
	t.Helper()
	left, _ := impl.Collapse(list)
	seen := map[string]bool{}
	var visit func(list []impl.Knot)
	visit = func(at []impl.Knot) {
		if seen[impl.FormatKnots(at)] {
			return
		}
		seen[impl.FormatKnots(at)] = true
		steps, ok := impl.StepsOf(at)
		if !ok || len(steps) == 0 && !slices.Equal(at, left) {
			t.Errorf("%s: %s is left, and Collapse = %q", impl.FormatKnots(list), impl.FormatKnots(at), left)
		}
		for _, step := range steps {
			behind, _ := impl.DoStep(at, step)
			visit(behind)
		}
	}
	visit(list)
	return len(seen)
}

func TestCollapsingOfAllSmallGraphs(t *testing.T) {
	for _, names := range []string{"Q", "BA", "CAB"} {
		allGraphs(names, func(g []impl.Block) {
			checkKnotOf(t, g)
			list, _ := impl.KnotsOf(g)
			checkAllOrders(t, list)
		})
	}
}

func TestCollapsingOfLargerGraphs(t *testing.T) {
	source := rand.New(rand.NewSource(9))
	for round := range 400 {
		size := someSize(source, round)
		checkKnotOf(t, someGraph(source, size, 1+source.Intn(8)))
		checkKnotOf(t, tameGraph(source, size))
	}
}

// smallLists calls visit with all lists of so many knots, of some blocks and some Next.
func smallLists(count int, blocks string, nexts string, visit func([]impl.Knot)) {
	var fill func(list []impl.Knot)
	fill = func(list []impl.Knot) {
		if len(list) == count {
			visit(slices.Clone(list))
			return
		}
		for _, names := range strings.Split(blocks, " ") {
			for _, next := range strings.Split(nexts, " ") {
				fill(append(list, impl.Knot{Blocks: names, Next: next}))
			}
		}
	}
	fill(make([]impl.Knot, 0, count))
}

func TestAllSmallListsOfKnots(t *testing.T) {
	valid := 0
	check := func(list []impl.Knot) {
		if plainKnots(list) {
			valid++
			checkCollapsing(t, list)
			checkAllOrders(t, list)
		} else if impl.KnotsValid(list) || impl.CountSteps(list) != -1 {
			t.Errorf("KnotsValid(%q) = true", impl.FormatKnots(list))
		}
	}
	for count := range 3 {
		smallLists(count, " A B C AB BA AC CB AA ABB CAB CBA a A[", " A B C AB BA AC BC ABC AA ABB D a", check)
	}
	smallLists(3, "A B C AC BD CA", " A B C AB AC BC ABC CB D", check)
	if valid < 1000 {
		t.Errorf("%d lists are valid", valid)
	}
}

// someKnots returns valid knots that a source of numbers tells, of so many; each goes on to about share of them.
func someKnots(source *rand.Rand, count int, share int) []impl.Knot {
	letters := source.Perm(26)
	list := make([]impl.Knot, count)
	for i := range list {
		list[i].Blocks = alphabet[letters[i] : letters[i]+1]
	}
	for i := range list {
		// One that comes ahead in a hidden order leads to each, so that all are led to.
		if i > 0 {
			list[source.Intn(i)].Next += list[i].Blocks
		}
		for range source.Intn(share + 1) {
			list[i].Next += list[source.Intn(count)].Blocks
		}
	}
	for _, k := range letters[count:] {
		if source.Intn(2) == 0 {
			list[source.Intn(count)].Blocks += alphabet[k : k+1]
		}
	}
	for i, k := range list {
		list[i] = impl.Knot{Blocks: k.Blocks[:1] + lettersIn(k.Blocks[1:]), Next: lettersIn(k.Next)}
	}
	source.Shuffle(count-1, func(i, k int) { list[i+1], list[k+1] = list[k+1], list[i+1] })
	return list
}

func TestLargerListsOfKnots(t *testing.T) {
	source := rand.New(rand.NewSource(10))
	for round := range 600 {
		list := someKnots(source, someSize(source, round), source.Intn(4))
		if !plainKnots(list) {
			t.Fatalf("%q are no knots", impl.FormatKnots(list))
		}
		checkCollapsing(t, list)
		checkSomeOrders(t, source, list)
		checkSpoilt(t, source, list)
	}
}

// checkSomeOrders checks that the same is left by steps and by picks that a source of numbers tells.
func checkSomeOrders(t *testing.T, source *rand.Rand, list []impl.Knot) {
	t.Helper()
	left, _ := impl.Collapse(list)
	for range 5 {
		at, picks := list, []int{}
		for steps, _ := impl.StepsOf(at); len(steps) > 0; steps, _ = impl.StepsOf(at) {
			picks = append(picks, source.Int())
			at, _ = impl.DoStep(at, steps[picks[len(picks)-1]%len(steps)])
		}
		if !slices.Equal(at, left) {
			t.Errorf("%s: %s is left, and Collapse = %q", impl.FormatKnots(list), impl.FormatKnots(at), left)
		}
		got, ok := impl.CollapseBy(list, picks)
		wantKnots(t, fmt.Sprintf("%s: CollapseBy %d", impl.FormatKnots(list), picks), got, ok, impl.FormatKnots(at))
	}
}

// checkSpoilt checks knots of which one text has a byte more, or another one in place of one.
func checkSpoilt(t *testing.T, source *rand.Rand, list []impl.Knot) {
	t.Helper()
	for range 20 {
		spoilt := slices.Clone(list)
		k := source.Intn(len(list))
		one := []string{list[k].Blocks, list[k].Next}
		which := source.Intn(2)
		text := one[which]
		at := source.Intn(len(text) + 1)
		letter := (alphabet + "[a")[source.Intn(28):][:1]
		one[which] = text[:at] + letter + text[min(at+source.Intn(2), len(text)):]
		spoilt[k] = impl.Knot{Blocks: one[0], Next: one[1]}
		want := plainKnots(spoilt)
		if got := impl.KnotsValid(spoilt); got != want {
			t.Errorf("KnotsValid(%q) = %v", impl.FormatKnots(spoilt), got)
		}
	}
}

func TestAllOrdersOfSteps(t *testing.T) {
	for text, lists := range map[string]int{
		"A>": 1, "A>BC,B>C,C>B": 1, "A>A": 2, "A>B,B>B": 3,
		// Both joins can be done in either order.
		"A>BC,B>,C>": 4, "A>B,B>C,C>": 4, "A>ABC,B>ABC,C>ABC": 8, "A>BC,B>CD,C>BE,D>,E>": 4,
	} {
		if got := checkAllOrders(t, knotted(text)); got != lists {
			t.Errorf("%s: steps come to %d lists, want %d", text, got, lists)
		}
	}
	source := rand.New(rand.NewSource(11))
	for range 60 {
		checkAllOrders(t, someKnots(source, 1+source.Intn(6), source.Intn(4)))
		list, _ := impl.KnotsOf(someGraph(source, 4+source.Intn(3), 1+source.Intn(8)))
		checkAllOrders(t, list)
		list, _ = impl.KnotsOf(tameGraph(source, 2+source.Intn(6)))
		checkAllOrders(t, list)
	}
}

func TestKnotsShareNoMemory(t *testing.T) {
	whole := knotted("A>B,B>BCD,CE>B,D>,X>Y")
	picks := []int{1, 0, -5}
	graph := append(parsed(t, "A?BC,B>C,C?BD,D>D,E>D"), impl.Block{Name: "X", Next: "Y"})
	before, beforeGraph := slices.Clone(whole), slices.Clone(graph)
	for range 2 {
		list, g := whole[:4], graph[:5]
		steps, _ := impl.StepsOf(list)
		for i := range steps[:cap(steps)] {
			steps[:cap(steps)][i] = "QQ"
		}
		results := [][]impl.Knot{}
		for _, step := range []string{"drop B", "join C", "join D"} {
			behind, _ := impl.DoStep(list, step)
			results = append(results, behind)
		}
		left, _ := impl.Collapse(list)
		by, _ := impl.CollapseBy(list, picks[:2])
		none, _ := impl.CollapseBy(whole[3:4], picks[:2])
		knots, _ := impl.KnotsOf(g)
		for _, result := range append(results, left, by, none, knots) {
			for i := range result[:cap(result)] {
				result[:cap(result)][i] = impl.Knot{Blocks: "QQ", Next: "QQ"}
			}
		}
		// No state between calls: neither what was written into a result nor another list changes the next one.
		wantCollapsing(t, knotted("A>BC,B>C,C>B"), collapsing{"", "A>BC,B>C,C>B", 0})
		wantCollapsing(t, list, collapsing{"drop B, join C, join D", "ABCDE>", 5})
		wantKnot(t, g, "A>BC,B>C,C>BD,D>D", "ABC")
	}
	if !slices.Equal(whole, before) || !slices.Equal(graph, beforeGraph) || !slices.Equal(picks, []int{1, 0, -5}) {
		t.Errorf("collapsing changes its knots, picks or graph: %q, %v, %v", whole, picks, graph)
	}
}

// All goroutines that a call begins end with it: those that wait forever would fail the bubble.
func TestNoGoroutineOfKnotsIsLeft(t *testing.T) {
	for _, g := range [][]impl.Block{nil, parsed(t, "A."), parsed(t, "A>B,B?CD,C>B,D."), parsed(t, "A?BC,B>C,C>B"), chainOfAll("A"), {{Name: "a"}}} {
		synctest.Test(t, func(t *testing.T) {
			want := impl.IsTame(g)
			if got := impl.IsKnot(g); got != want {
				t.Errorf("IsKnot(%q) = %v", impl.FormatGraph(g), got)
			}
			if _, ok := impl.WildDoors(g); ok != (!want && len(g) > 1) {
				t.Errorf("WildDoors(%q) = %v", impl.FormatGraph(g), ok)
			}
			list, _ := impl.KnotsOf(g)
			if left, ok := impl.CollapseBy(list, []int{1, 2}); (len(left) > 0) != ok || ok != impl.GraphValid(g) {
				t.Errorf("CollapseBy of %q = %q, %v", impl.FormatGraph(g), left, ok)
			}
		})
	}
}
