package tests

import (
	"math/rand"
	"slices"
	"strings"
	"testing"

	"loop.example/structuredjumps/impl"
)

// A rounds is what the functions of a whole graph return; parts have a space between them.
// The broken part is empty if none is broken, and the nest is empty if one is.
type rounds struct {
	parts, nest, broken string
}

// A round is what the functions of one block return; its part is empty if it is in none.
// The inner parts have a space between them, and are noParts if the block is the only door of no part.
type round struct {
	part, doors, inner string
	level              int
}

const noParts = "-"

// noRound is what the functions of a name return that is none of a reached block.
func noRound() round {
	return round{"", "", noParts, -1}
}

// wantParts checks a result that is parts and a bool; the parts that are wanted have a space between them.
func wantParts(t *testing.T, call string, got []string, ok bool, want string, wantOK bool) {
	t.Helper()
	if !slices.Equal(got, strings.Fields(want)) || ok != wantOK {
		t.Errorf("%s = %q, %v; want %q, %v", call, got, ok, want, wantOK)
	}
}

// wantRounds checks the functions of a whole graph.
func wantRounds(t *testing.T, g []impl.Block, want rounds) {
	t.Helper()
	call := impl.FormatGraph(g) + ": "
	parts, ok := impl.PartsOf(g)
	wantParts(t, call+"PartsOf", parts, ok, want.parts, true)
	nest, ok := impl.NestOf(g)
	wantText(t, call+"NestOf", nest, ok, want.nest, want.broken == "")
	broken, ok := impl.FirstBroken(g)
	wantText(t, call+"FirstBroken", broken, ok, want.broken, want.broken != "")
	if got := impl.IsNested(g); got != (want.broken == "") {
		t.Errorf("%sIsNested = %v", call, got)
	}
}

// wantRound checks the functions of one name.
func wantRound(t *testing.T, what string, g []impl.Block, name string, want round) {
	t.Helper()
	call := what + ": "
	part, ok := impl.PartOf(g, name)
	wantText(t, call+"PartOf "+name, part, ok, want.part, want.part != "")
	doors, ok := impl.DoorsOf(g, name)
	wantText(t, call+"DoorsOf "+name, doors, ok, want.doors, want.part != "")
	inner, ok := impl.InnerParts(g, name)
	wantParts(t, call+"InnerParts "+name, inner, ok, strings.Trim(want.inner, noParts), want.inner != noParts)
	if got := impl.LevelOf(g, name); got != want.level {
		t.Errorf("%sLevelOf %s = %d, want %d", call, name, got, want.level)
	}
}

// wantGoRound checks for each two blocks of a graph whether they are in the same part.
func wantGoRound(t *testing.T, g []impl.Block, parts string) {
	t.Helper()
	for _, a := range g {
		for _, b := range g {
			want := false
			for _, part := range strings.Split(parts, " ") {
				want = want || strings.Contains(part, a.Name) && strings.Contains(part, b.Name)
			}
			if got := impl.GoRound(g, a.Name, b.Name); got != want {
				t.Errorf("%s: GoRound %s %s = %v", impl.FormatGraph(g), a.Name, b.Name, got)
			}
		}
	}
}

// readNest returns the parts of a graph that a nest tells, and what it tells of each block.
func readNest(g []impl.Block, nest string) (string, map[string]round) {
	order, open := "", ""
	for _, b := range g {
		order += b.Name
	}
	around := map[string]string{} // the doors of all parts in which a block is, the outermost one first
	for i, name := range strings.Split(nest, "") {
		switch name {
		case "{":
			open += nest[i+1 : i+2]
		case "}":
			open = open[:len(open)-1]
		default:
			around[name] = open
		}
	}
	blocks := map[string]string{} // of the part of each door
	for _, name := range strings.Split(order, "") {
		for _, door := range strings.Split(around[name], "") {
			blocks[door] += name
		}
	}
	within := func(doors string) string {
		list := []string{}
		for door, part := range blocks {
			if around[door] == doors+door {
				list = append(list, part)
			}
		}
		slices.SortFunc(list, func(a, b string) int { return strings.Index(order, a[:1]) - strings.Index(order, b[:1]) })
		return strings.Join(list, " ")
	}
	places := map[string]round{}
	for _, name := range strings.Split(order, "") {
		doors, reached := around[name]
		at := noRound()
		if reached {
			at.level = len(doors)
		}
		if doors != "" {
			at.part, at.doors = blocks[doors[:1]], doors[:1]
		}
		if strings.HasSuffix(doors, name) {
			at.inner = within(doors)
		}
		places[name] = at
	}
	return within(""), places
}

// wantNested checks all functions of a graph that is nested.
func wantNested(t *testing.T, g []impl.Block, nest string) {
	t.Helper()
	parts, places := readNest(g, nest)
	wantRounds(t, g, rounds{parts, nest, ""})
	wantGoRound(t, g, parts)
	for name, want := range places {
		wantRound(t, impl.FormatGraph(g), g, name, want)
	}
}

// wantNests checks some graphs that are nested, by their texts.
func wantNests(t *testing.T, want map[string]string) {
	t.Helper()
	for text, nest := range want {
		wantNested(t, parsed(t, text), nest)
	}
}

// wantBroken checks all functions of a graph that is not nested, for those of its blocks that are told.
func wantBroken(t *testing.T, text string, parts string, broken string, places map[string]round) {
	t.Helper()
	g := parsed(t, text)
	wantRounds(t, g, rounds{parts, "", broken})
	wantGoRound(t, g, parts)
	for name, want := range places {
		want.level = -1
		wantRound(t, text, g, name, want)
	}
}

func TestPartsOfTheDocument(t *testing.T) {
	g := parsed(t, "A>B,B?CF,C?DE,D>B,E>C,F.")
	wantRounds(t, g, rounds{"BCDE", "A{B{CE}D}F", ""})
	wantGoRound(t, g, "BCDE")
	for name, want := range map[string]round{
		"A": {"", "", noParts, 0}, "B": {"BCDE", "B", "CE", 1}, "C": {"BCDE", "B", "", 2},
		"D": {"BCDE", "B", noParts, 1}, "E": {"BCDE", "B", noParts, 2}, "F": {"", "", noParts, 0},
	} {
		wantRound(t, "the example", g, name, want)
	}
	h := parsed(t, "A>B,B?CD,C>B,D.")
	wantRounds(t, h, rounds{"BC", "A{BC}D", ""})
	wantRound(t, "the graph of the desk", h, "C", round{"BC", "B", noParts, 1})
	if impl.GoRound(h, "B", "D") {
		t.Errorf("GoRound B D = true")
	}
	wantRounds(t, parsed(t, "A?BC,B>C,C>B"), rounds{"BC", "", "BC"})
	wantRounds(t, parsed(t, "A?BD,B>C,C>B,D>B"), rounds{"BC", "A{BC}D", ""})
}

func TestBlocksInNoPart(t *testing.T) {
	wantNests(t, map[string]string{
		"A.": "A", "Z.": "Z", "A>B,B.": "AB", "A?BC,B>D,C>D,D.": "ABCD", "A?CB,B.,C.": "ABC", "A?BD,B?CD,C>D,D.": "ABCD",
		// The nest is in the order of the graph, not in that in which blocks are come to or in that of the alphabet.
		"M?ZA,A>C,Z>C,C.": "MAZC", "A>D,B.,C>B,D>C": "ABCD",
		// Ahead of parts, between and behind them.
		"A>B,B>C,C?BD,D>E,E?EF,F>G,G.": "A{BC}D{E}FG",
		// Ways that part and meet again go round nowhere.
		"A?BC,B>D,C>D,D?DE,E?FG,F>G,G.": "ABC{D}EFG",
	})
}

func TestPartsOfOneBlock(t *testing.T) {
	wantNests(t, map[string]string{
		"A>A": "{A}", "A?AB,B.": "{A}B", "A?BA,B.": "{A}B", "A>B,B?BC,C?CD,D.": "A{B}{C}D", "A?BC,B?BC,C>C": "A{B}{C}",
		// Within another part they are inner parts, unless they are its door.
		"A>B,B?BC,C?CA": "{A{B}{C}}", "A?AB,B>A": "{AB}", "A>B,B?BC,C>B": "A{BC}", "A>B,B?BC,C>D,D?DB": "A{BC{D}}",
	})
	// A door of several may go on to itself.
	both := round{part: "BC", doors: "BC", inner: noParts}
	wantBroken(t, "A?BC,B?BC,C?CB", "BC", "BC", map[string]round{"B": both, "C": both})
	// All letters, each of which goes on to itself.
	g := chainOfAll("Z")
	for i := range 25 {
		g[i].Next += g[i].Name
	}
	wantNested(t, g, "{"+strings.Join(strings.Split(alphabet, ""), "}{")+"}")
}

func TestPartsAndUnreachedBlocks(t *testing.T) {
	wantNests(t, map[string]string{
		"A.,B>B": "A", "A.,B>A": "A", "A>B,B.,C>D,D?CA": "AB", "A>B,B?CF,C?DE,D>B,E>C,F.,G>G": "A{B{CE}D}F",
		// Their jumps make no doors, neither of parts nor of inner ones, wherever they stand themselves.
		"A>B,B>C,C>B,D>C": "A{BC}", "A>B,E?DC,B>C,C>D,D?CB,F?ED": "A{B{CD}}", "A>B,D?BA,B>A": "{AB}",
		// They make no part of what does not go round without them.
		"A>B,B>C,C.,D?AB,E?DC": "ABC",
		// What goes round with a block that is reached is reached too.
		"A?BC,B.,C>D,D>E,E>C": "AB{CDE}",
	})
	wantBroken(t, "A?BC,B>C,C>B,D?EF,E>F,F>E", "BC", "BC", map[string]round{"D": noRound(), "E": noRound(), "F": noRound()})
	wantBroken(t, "A?BC,B>C,C>B,D>D,E?BA", "BC", "BC", map[string]round{"B": {part: "BC", doors: "BC", inner: noParts}, "D": noRound(), "E": noRound()})
}

func TestPartsWithinParts(t *testing.T) {
	wantNests(t, map[string]string{
		"A>B,B>C,C?CD,D?BE,E?AF,F.": "{A{B{C}D}E}F",
		// Several beside each other, in one part and in none.
		"A>B,B?BC,C?DE,D>C,E?AF,F.": "{A{B}{CD}E}F", "A?BC,B>D,C>E,D?BF,E?CF,F?FG,G.": "A{BD}{CE}{F}G", "A>B,B?CD,C?CE,D?DE,E?FB,F>G,G?FA": "{A{B{C}{D}E}{FG}}",
		// What goes on to the door of an outer part alone is in no inner one.
		"A>B,B>C,C?AD,D?BE,E.": "{A{BCD}}E", "A>B,B?CD,C>A,D>A": "{ABCD}", "A>B,B>C,C?DE,D>A,E?BF,F>B": "{A{BCEF}D}",
		// The door of an inner part may be entered from blocks that are no door, also from within an inner part beside it, and from several.
		"A>B,B>C,C>D,D>E,E?DB": "A{BC{DE}}", "A>B,B>C,C?BD,D>E,E?DA": "{A{BC}{DE}}", "A?BC,B?BC,C>D,D?CA": "{A{B}{CD}}",
	})
}

func TestPartsManyTimesWithinEachOther(t *testing.T) {
	// A to M are doors, and Z to N go back to these or on to the next one.
	g := chainOfAll("A")
	for i := 13; i < 25; i++ {
		g[i].Next = alphabet[25-i:26-i] + g[i].Next
	}
	wantNested(t, g, "{"+strings.Join(strings.Split(alphabet[:13], ""), "{")+strings.Join(strings.Split(alphabet[13:], ""), "}")+"}")
	// If only the innermost one has a second door, it is the one that is broken.
	g[11].Next = "MN"
	wantRounds(t, g, rounds{alphabet, "", "MN"})
	for name, inner := range map[string]string{"A": alphabet[1:25], "K": "LMNO", "L": "MN", "M": noParts, "N": noParts, "Z": noParts} {
		wantRound(t, "the innermost part is broken", g, name, round{alphabet, "A", inner, -1})
	}
	// One that is broken further out has no inner parts.
	g[10].Next = "LN"
	wantRounds(t, g, rounds{alphabet, "", "LMNO"})
	for name, inner := range map[string]string{"J": "KLMNOP", "K": "LMNO", "L": noParts, "M": noParts, "N": noParts} {
		wantRound(t, "the innermost part but one is broken", g, name, round{alphabet, "A", inner, -1})
	}
}

func TestPartsOfAllLetters(t *testing.T) {
	g := chainOfAll("A")
	wantNested(t, g, "{"+alphabet+"}")
	for _, onward := range []byte("lr") {
		wantNested(t, chainOfBranches(onward), "{"+alphabet[:25]+"}Z")
	}
	// The door stands ahead of the others, which stand backwards in the graph.
	slices.Reverse(g)
	wantNested(t, slices.Concat(g[10:11], g[:10], g[11:]), "{PZYXWVUTSRQONMLKJIHGFEDCBA}")
	// Two ways through all letters meet again at the last one of the longer way.
	meeting := chainOfAll("Y")
	meeting[0].Next, meeting[24].Next = "BZ", ""
	wantNested(t, meeting, alphabet)
	meeting[24].Next = "X"
	wantRounds(t, meeting, rounds{"XY", "", "XY"})
	// Each of B to Z goes on to the ones beside it but A, and A to B and Z.
	ring := chainOfAll("Y")
	for i := 1; i < 25; i++ {
		ring[i].Next = alphabet[i+1:i+2] + strings.Trim(alphabet[i-1:i], "A")
	}
	ring[0].Next = "ZB"
	wantRounds(t, ring, rounds{alphabet[1:], "", alphabet[1:]})
	wantRound(t, "a ring with two doors", ring, "M", round{alphabet[1:], "BZ", noParts, -1})
}

func TestPartsThatAreEnteredAtTheEntry(t *testing.T) {
	wantNests(t, map[string]string{
		"A>B,B>A": "{AB}", "B>A,A>B": "{BA}", "A>B,B>C,C?AD,D.": "{ABC}D", "D>C,A?DE,B?CA,C>B,E.": "{DA{CB}}E", "A?BC,B>B,C?CA": "{A{C}}{B}",
		// It is the only door, even if what is not reached goes on to others, or to it as well.
		"A>B,B>A,C?AB": "{AB}", "A>B,C>B,B>A": "{AB}",
		// It is no door of a part that is entered behind it.
		"A>B,B>C,C>B": "A{BC}",
	})
	within := round{part: "ABC", doors: "A", inner: noParts}
	wantBroken(t, "A?BC,B?AC,C?AB", "ABC", "BC", map[string]round{"A": {part: "ABC", doors: "A", inner: "BC"}, "B": within, "C": within})
}

func TestPartsWithSeveralDoors(t *testing.T) {
	both := round{part: "BC", doors: "BC", inner: noParts}
	wantBroken(t, "A?BC,B>C,C>B", "BC", "BC", map[string]round{"A": {inner: noParts}, "B": both, "C": both})
	// Doors are in the order of the graph, not in that of Next or of the alphabet, and need not be the first ones.
	wantBroken(t, "A?DC,B>C,C>D,D>B", "BCD", "BCD", map[string]round{"B": {part: "BCD", doors: "CD", inner: noParts}, "C": {part: "BCD", doors: "CD", inner: noParts}})
	wantBroken(t, "A?CZ,Z>M,M>C,C>Z", "ZMC", "ZMC", map[string]round{"M": {part: "ZMC", doors: "ZC", inner: noParts}})
	// They are entered from several blocks, each by one of them or by more.
	wantBroken(t, "A?EF,B>C,C>D,D>B,E?BF,F?CD", "BCD", "BCD", map[string]round{"B": {part: "BCD", doors: "BCD", inner: noParts}, "E": {inner: noParts}})
	// Other parts may have one door, and are found all the same.
	wantBroken(t, "A?BC,B>C,C?BD,D>E,E?DF,F?FD", "BC DEF", "BC", map[string]round{"B": both, "D": {part: "DEF", doors: "D", inner: "F"}, "E": {part: "DEF", doors: "D", inner: noParts}, "F": {part: "DEF", doors: "D", inner: ""}})
	// A part with several doors has no inner parts: none of its blocks is the only door of one.
	wantBroken(t, "A?BC,B>C,C?DB,D?DB", "BCD", "BCD", map[string]round{"B": {part: "BCD", doors: "BC", inner: noParts}, "D": {part: "BCD", doors: "BC", inner: noParts}})
}

func TestPartsWithSeveralDoorsWithinOthers(t *testing.T) {
	wantBroken(t, "A>B,B?CD,C?BD,D?CE,E.", "BCD", "CD", map[string]round{
		"A": {inner: noParts}, "B": {part: "BCD", doors: "B", inner: "CD"}, "C": {part: "BCD", doors: "B", inner: noParts}, "D": {part: "BCD", doors: "B", inner: noParts}, "E": {inner: noParts},
	})
	// The doors are entered from blocks of the outer part that are not its door, from one or from several.
	wantBroken(t, "A>B,B>C,C?DE,D>E,E?DB", "BCDE", "DE", map[string]round{"B": {part: "BCDE", doors: "B", inner: "DE"}, "C": {part: "BCDE", doors: "B", inner: noParts}, "D": {part: "BCDE", doors: "B", inner: noParts}})
	wantBroken(t, "A>B,B?CF,C>D,D>E,E?DB,F>E", "BCDEF", "DE", map[string]round{"B": {part: "BCDEF", doors: "B", inner: "DE"}, "D": {part: "BCDEF", doors: "B", inner: noParts}})
	// The door of the outer part enters an inner one of its inner part past the door of that.
	wantBroken(t, "A?BC,B>C,C>D,D?CE,E?BA", "ABCDE", "BCDE", map[string]round{"A": {part: "ABCDE", doors: "A", inner: "BCDE"}, "B": {part: "ABCDE", doors: "A", inner: noParts}, "C": {part: "ABCDE", doors: "A", inner: noParts}})
}

func TestFirstOfSeveralBrokenParts(t *testing.T) {
	one := map[string]round{"A": {part: "AZ", doors: "AZ", inner: noParts}, "M": {part: "MN", doors: "MN", inner: noParts}}
	wantBroken(t, "E?FG,F?AZ,G?MN,A>Z,M>N,N>M,Z>A", "AZ MN", "AZ", one)
	wantBroken(t, "E?FG,F?AZ,G?MN,M>N,A>Z,N>M,Z>A", "MN AZ", "MN", one)
	// An inner part comes ahead of an outer one that is behind its own outer one, and only then.
	two := map[string]round{"B": {part: "BCD", doors: "B", inner: "CD"}, "E": {part: "EF", doors: "EF", inner: noParts}}
	wantBroken(t, "X?BY,Y?EF,B?CD,C>D,D?CB,E>F,F>E", "BCD EF", "CD", two)
	wantBroken(t, "X?BY,Y?EF,E>F,F>E,B?CD,C>D,D?CB", "EF BCD", "EF", two)
	// The first name of a part counts, also where the broken one within it stands behind the other one.
	wantBroken(t, "X?BY,Y?EF,B?CD,E>F,F>E,C>D,D?CB", "BCD EF", "CD", two)
	// What is within an inner part comes ahead of the inner part behind it.
	wantBroken(t, "A?BP,B?CD,C>D,D?CE,E?BA,P?QR,Q>R,R?QA", "ABCDEPQR", "CD", map[string]round{
		"A": {part: "ABCDEPQR", doors: "A", inner: "BCDE QR"}, "B": {part: "ABCDEPQR", doors: "A", inner: "CD"}, "C": {part: "ABCDEPQR", doors: "A", inner: noParts}, "Q": {part: "ABCDEPQR", doors: "A", inner: noParts},
	})
	wantBroken(t, "A?BP,P?QR,Q>R,R?QA,B?CD,C>D,D?CE,E?BA", "APQRBCDE", "QR", map[string]round{
		"A": {part: "APQRBCDE", doors: "A", inner: "QR BCDE"}, "B": {part: "APQRBCDE", doors: "A", inner: "CD"}, "C": {part: "APQRBCDE", doors: "A", inner: noParts},
	})
}

func TestPartsWhoseDoorIsNotTheirFirstName(t *testing.T) {
	wantNests(t, map[string]string{
		"M>Z,C.,A>Z,Z?AB,B?ZC": "MC{ZAB}",
		// M is ahead of Z in the graph, but A, which goes round with Z, is ahead of both.
		"E?MZ,A>Z,M>N,N>M,Z>A": "E{ZA}{MN}", "E?MZ,A>Z,N>M,M>N,Z>A": "E{ZA}{MN}", "O>E,E?MZ,A?ZO,M>N,N?MO,Z>A": "{OE{ZA}{MN}}",
		// Blocks of a part may stand among others, behind which it does not begin anew.
		"X>D,B>C,Y>Z,C>D,Z.,D?BY": "X{DBC}YZ",
		// The outer door stands among the blocks of an inner part.
		"S>D,B>C,D>C,C?BD,E.": "S{D{CB}}",
	})
	g := parsed(t, "O>E,E?MZ,A?ZO,M>N,N?MO,Z>A")
	for name, want := range map[string]round{"O": {"OEAMNZ", "O", "AZ MN", 1}, "M": {"OEAMNZ", "O", "", 2}, "Z": {"OEAMNZ", "O", "", 2}, "A": {"OEAMNZ", "O", noParts, 2}, "E": {"OEAMNZ", "O", noParts, 1}} {
		wantRound(t, "parts in the order of their first names", g, name, want)
	}
	h := parsed(t, "E?MZ,A>Z,M>N,N>M,Z>A")
	wantRounds(t, h, rounds{"AZ MN", "E{ZA}{MN}", ""})
	wantRound(t, "parts in the order of their first names", h, "A", round{"AZ", "Z", noParts, 1})
}

func TestRoundsOfNames(t *testing.T) {
	for _, text := range []string{"A>B,B?CD,C>B,D.", "A>A", "A.,B.", "A?BC,B>C,C>B", "A>B,B>C,C?BA"} {
		g := parsed(t, text)
		for _, name := range []string{"", "E", "Z", "a", "b", "AB", "CB", "BC", "ABC", "AA", "A ", " A", ".", ">", ",", "{", "-", "\x00", "\xff", "Ä", "A\x00", strings.Repeat("A", 1000)} {
			wantRound(t, text+": "+name, g, name, noRound())
			for _, other := range []string{"", "A", "B", "C", name} {
				if impl.GoRound(g, name, other) || impl.GoRound(g, other, name) {
					t.Errorf("%s: GoRound of %.20q and %.20q = true", text, name, other)
				}
			}
		}
	}
}

func TestRoundsOfNoGraph(t *testing.T) {
	for what, g := range badGraphs() {
		parts, ok := impl.PartsOf(g)
		wantParts(t, what+": PartsOf", parts, ok, "", false)
		nest, ok := impl.NestOf(g)
		wantText(t, what+": NestOf", nest, ok, "", false)
		broken, ok := impl.FirstBroken(g)
		wantText(t, what+": FirstBroken", broken, ok, "", false)
		if impl.IsNested(g) {
			t.Errorf("%s: IsNested = true", what)
		}
		for _, name := range []string{"", "A", "B", "AB", "a"} {
			wantRound(t, what, g, name, noRound())
			for _, other := range []string{"", "A", "B"} {
				if impl.GoRound(g, name, other) {
					t.Errorf("%s: GoRound %q %q = true", what, name, other)
				}
			}
		}
	}
}

// A plainRound is a part, found with texts alone.
type plainRound struct {
	blocks, doors string
	inner         []string
}

// plainRounds is what the chapter says about a graph, found with texts alone.
type plainRounds struct {
	g       []impl.Block
	reached string
	next    map[string]string
	outer   []string
	all     []plainRound // each ahead of its inner parts
}

func plainRoundsOf(g []impl.Block) *plainRounds {
	p := &plainRounds{g: g, reached: closure(g), next: map[string]string{}}
	for _, b := range g {
		p.next[b.Name] = b.Next
	}
	p.outer = p.parts(p.reached, "")
	p.walk(p.outer, "")
	return p
}

// comes returns the names of the blocks to which one comes by one or more jumps between some blocks, without those to blocks that are left out.
func (p *plainRounds) comes(from string, among string, out string) string {
	names := ""
	for queue := from; queue != ""; queue = queue[1:] {
		for _, to := range strings.Split(p.next[queue[:1]], "") {
			if strings.Contains(among, to) && !strings.Contains(out+names, to) {
				names += to
				queue += to
			}
		}
	}
	return names
}

// parts returns the parts of some blocks if jumps to those that are left out do not count.
func (p *plainRounds) parts(among string, out string) []string {
	comes := map[string]string{}
	for _, name := range strings.Split(among, "") {
		comes[name] = p.comes(name, among, out)
	}
	list := []string{}
	for _, a := range strings.Split(among, "") {
		part := ""
		for _, b := range strings.Split(among, "") {
			if strings.Contains(comes[a], b) && strings.Contains(comes[b], a) {
				part += b
			}
		}
		if part != "" && !slices.Contains(list, part) {
			list = append(list, part)
		}
	}
	return list
}

// doors returns the doors of a part.
func (p *plainRounds) doors(part string) string {
	doors := ""
	for _, name := range strings.Split(part, "") {
		entered := name == p.g[0].Name
		for _, from := range strings.Split(p.reached, "") {
			entered = entered || !strings.Contains(part, from) && strings.Contains(p.next[from], name)
		}
		if entered {
			doors += name
		}
	}
	return doors
}

// walk keeps some parts and all within them; the doors of those around are left out.
func (p *plainRounds) walk(parts []string, out string) {
	for _, part := range parts {
		one := plainRound{blocks: part, doors: p.doors(part)}
		if len(one.doors) == 1 {
			one.inner = p.parts(part, out+one.doors)
		}
		p.all = append(p.all, one)
		p.walk(one.inner, out+one.doors)
	}
}

// nest returns the text of some blocks with some parts, none of which is broken.
func (p *plainRounds) nest(among string, parts []string) string {
	text := ""
	for _, name := range strings.Split(among, "") {
		at := slices.IndexFunc(parts, func(part string) bool { return strings.Contains(part, name) })
		if at < 0 {
			text += name
		} else if strings.HasPrefix(parts[at], name) {
			one := p.all[slices.IndexFunc(p.all, func(one plainRound) bool { return one.blocks == parts[at] })]
			text += "{" + one.doors + p.nest(strings.Replace(one.blocks, one.doors, "", 1), one.inner) + "}"
		}
	}
	return text
}

// whole returns what the functions of the whole graph return.
func (p *plainRounds) whole() rounds {
	want := rounds{parts: strings.Join(p.outer, " ")}
	for _, one := range slices.Backward(p.all) {
		if len(one.doors) > 1 {
			want.broken = one.blocks
		}
	}
	if want.broken == "" {
		want.nest = p.nest(p.reached, p.outer)
	}
	return want
}

// one returns what the functions of one block return.
func (p *plainRounds) one(name string) round {
	want := noRound()
	if !strings.Contains(p.reached, name) {
		return want
	}
	level := 0
	for _, one := range p.all {
		if one.doors == name {
			want.inner = strings.Join(one.inner, " ")
		}
		if strings.Contains(one.blocks, name) {
			level++
			if slices.Contains(p.outer, one.blocks) {
				want.part, want.doors = one.blocks, one.doors
			}
		}
	}
	if p.whole().broken == "" {
		want.level = level
	}
	return want
}

// check checks all functions of the chapter on a graph against the plain definitions.
func (p *plainRounds) check(t *testing.T) {
	t.Helper()
	want := p.whole()
	wantRounds(t, p.g, want)
	wantGoRound(t, p.g, want.parts)
	for _, b := range p.g {
		wantRound(t, impl.FormatGraph(p.g), p.g, b.Name, p.one(b.Name))
	}
}

// checkLargest checks the parts of a small graph by going through all sets of its reached blocks.
func (p *plainRounds) checkLargest(t *testing.T) {
	t.Helper()
	sets := []string{""}
	for _, name := range strings.Split(p.reached, "") {
		for _, set := range sets {
			sets = append(sets, set+name)
		}
	}
	sets = slices.DeleteFunc(sets, func(set string) bool {
		return set == "" || slices.ContainsFunc(strings.Split(set, ""), func(name string) bool { return len(p.comes(name, set, "")) < len(set) })
	})
	// None of them is a part if another one has all of its blocks and more.
	largest := slices.DeleteFunc(slices.Clone(sets), func(set string) bool {
		return slices.ContainsFunc(sets, func(other string) bool { return len(other) > len(set) && strings.Trim(set, other) == "" })
	})
	slices.SortFunc(largest, func(a, b string) int { return strings.Index(p.reached, a[:1]) - strings.Index(p.reached, b[:1]) })
	if parts, ok := impl.PartsOf(p.g); !slices.Equal(parts, largest) || !ok {
		t.Errorf("%s: PartsOf = %q, %v; want %q", impl.FormatGraph(p.g), parts, ok, largest)
	}
}

// checkTameNest checks that a graph is nested exactly if it is tame and collapses to one knot, and that its parts then are its loops.
func checkTameNest(t *testing.T, g []impl.Block) {
	t.Helper()
	text := impl.FormatGraph(g)
	nested, tame := impl.IsNested(g), impl.IsTame(g)
	if nested != tame || nested != impl.IsKnot(g) {
		t.Errorf("%s: IsNested = %v, IsTame = %v, IsKnot = %v", text, nested, tame, impl.IsKnot(g))
	}
	if !tame {
		return
	}
	headers, _ := impl.HeadersOf(g)
	loops := map[string]string{}
	for _, header := range strings.Split(headers, "") {
		loops[header], _ = impl.LoopOf(g, header)
	}
	inner := map[string]string{}
	outer, _ := impl.PartsOf(g)
	for _, b := range g {
		if depth, level := impl.DepthIn(g, b.Name), impl.LevelOf(g, b.Name); depth != level {
			t.Errorf("%s: DepthIn %s = %d, LevelOf = %d", text, b.Name, depth, level)
		}
		parts, ok := impl.InnerParts(g, b.Name)
		if ok != strings.Contains(headers, b.Name) {
			t.Errorf("%s: InnerParts %s = %q, %v", text, b.Name, parts, ok)
		}
		for _, part := range parts {
			inner[part] = b.Name
		}
	}
	for header, loop := range loops {
		door, within := inner[loop]
		if within == slices.Contains(outer, loop) || within && !strings.Contains(loops[door], header) {
			t.Errorf("%s: the loop %s of %s is no part", text, loop, header)
		}
	}
	if len(loops) != len(inner)+len(outer) {
		t.Errorf("%s: loops %v, parts %v, inner parts %v", text, loops, outer, inner)
	}
}

func TestRoundsOfAllSmallGraphs(t *testing.T) {
	for _, names := range []string{"Q", "BA", "CAB"} {
		allGraphs(names, func(g []impl.Block) {
			p := plainRoundsOf(g)
			p.check(t)
			p.checkLargest(t)
			checkTameNest(t, g)
		})
	}
}

func TestNestedExactlyIfTame(t *testing.T) {
	nested := 0
	allGraphs("DBAC", func(g []impl.Block) {
		tame := impl.IsTame(g)
		if got := impl.IsNested(g); got != tame {
			t.Errorf("IsNested(%q) = %v", impl.FormatGraph(g), got)
		}
		if tame {
			nested++
		}
	})
	if nested < 40000 || nested > 80000 {
		t.Errorf("%d graphs are nested", nested)
	}
}

// nearlyTame returns a graph that is tame but for a few jumps more.
func nearlyTame(source *rand.Rand, n int) []impl.Block {
	g := tameGraph(source, n)
	for range 1 + source.Intn(3) {
		from, to := source.Intn(n), g[source.Intn(n)].Name
		if len(g[from].Next) < 2 && g[from].Next != to {
			g[from].Next += to
		}
	}
	return g
}

func TestRoundsOfLargerGraphs(t *testing.T) {
	source := rand.New(rand.NewSource(12))
	deep, broken := 0, 0
	for round := range 900 {
		size := someSize(source, round)
		for _, g := range [][]impl.Block{someGraph(source, size, 1+source.Intn(8)), tameGraph(source, size), nearlyTame(source, size)} {
			p := plainRoundsOf(g)
			p.check(t)
			checkTameNest(t, g)
			want := p.whole()
			if strings.Contains(want.nest, "}}}") {
				deep++
			}
			if want.broken != "" && !slices.Contains(p.outer, want.broken) {
				broken++
			}
		}
	}
	// The graphs are only worth their time if many have parts deep within others, or inner parts that are broken.
	if deep < 100 || broken < 150 {
		t.Errorf("%d graphs have parts deep within others, %d have inner parts that are broken", deep, broken)
	}
}

func TestRoundsShareNoMemory(t *testing.T) {
	whole := append(parsed(t, "A>B,B?BC,C?DE,D>C,E?AF,F.,G>C"), impl.Block{Name: "X", Next: "Y"})
	before := slices.Clone(whole)
	g := whole[:7]
	for range 2 {
		parts, _ := impl.PartsOf(g)
		inner, _ := impl.InnerParts(g, "A")
		none, _ := impl.InnerParts(g, "C")
		for _, list := range [][]string{parts, inner, none} {
			list = list[:cap(list)]
			for i := range list {
				list[i] = "QQ"
			}
		}
		// No state between calls: neither what was written into a result nor another graph changes the next one.
		wantRounds(t, parsed(t, "A?BC,B>C,C>B"), rounds{"BC", "", "BC"})
		wantRounds(t, g, rounds{"ABCDE", "{A{B}{CD}E}F", ""})
		wantRound(t, "again", g, "A", round{"ABCDE", "A", "B CD", 1})
		wantRound(t, "again", g, "D", round{"ABCDE", "A", noParts, 2})
		wantRound(t, "again", g, "G", noRound())
	}
	if !slices.Equal(whole, before) {
		t.Errorf("parts change their graph: %v", whole)
	}
}
