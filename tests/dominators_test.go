package tests

import (
	"math/rand"
	"slices"
	"strings"
	"testing"

	"loop.example/structuredjumps/impl"
)

// A place is what the functions of one block return; its parent is empty if there is none.
type place struct {
	dominators, parent, children, frontier string
}

// wantPlace checks the functions of one reached block.
func wantPlace(t *testing.T, g []impl.Block, name string, want place) {
	t.Helper()
	call := impl.FormatGraph(g) + ": " + name + ": "
	dominators, ok := impl.DominatorsOf(g, name)
	wantText(t, call+"DominatorsOf", dominators, ok, want.dominators, true)
	parent, ok := impl.ParentOf(g, name)
	wantText(t, call+"ParentOf", parent, ok, want.parent, want.parent != "")
	children, ok := impl.ChildrenOf(g, name)
	wantText(t, call+"ChildrenOf", children, ok, want.children, true)
	frontier, ok := impl.FrontierOf(g, name)
	wantText(t, call+"FrontierOf", frontier, ok, want.frontier, true)
}

// wantNoPlace checks the functions of one block where it is none that is reached, or where the graph is not valid.
func wantNoPlace(t *testing.T, what string, g []impl.Block, name string) {
	t.Helper()
	dominators, ok := impl.DominatorsOf(g, name)
	wantText(t, what+": DominatorsOf", dominators, ok, "", false)
	parent, ok := impl.ParentOf(g, name)
	wantText(t, what+": ParentOf", parent, ok, "", false)
	children, ok := impl.ChildrenOf(g, name)
	wantText(t, what+": ChildrenOf", children, ok, "", false)
	frontier, ok := impl.FrontierOf(g, name)
	wantText(t, what+": FrontierOf", frontier, ok, "", false)
}

// wantNoPair checks the functions of two blocks where one of them is none that is reached, or where the graph is not valid.
func wantNoPair(t *testing.T, what string, g []impl.Block, a string, b string) {
	t.Helper()
	meet, ok := impl.MeetOf(g, a, b)
	wantText(t, what+": MeetOf", meet, ok, "", false)
	way, ok := impl.AvoidsIn(g, a, b)
	wantText(t, what+": AvoidsIn", way, ok, "", false)
	if impl.Dominates(g, a, b) {
		t.Errorf("%s: Dominates = true", what)
	}
}

// wantTree checks the text of the tree of a graph.
func wantTree(t *testing.T, g []impl.Block, want string) {
	t.Helper()
	tree, ok := impl.DominatorTree(g)
	wantText(t, "DominatorTree("+impl.FormatGraph(g)+")", tree, ok, want, true)
}

// wantMeet checks MeetOf for two blocks, either way round.
func wantMeet(t *testing.T, g []impl.Block, a string, b string, want string) {
	t.Helper()
	for _, pair := range [][2]string{{a, b}, {b, a}} {
		meet, ok := impl.MeetOf(g, pair[0], pair[1])
		wantText(t, impl.FormatGraph(g)+": MeetOf "+pair[0]+" "+pair[1], meet, ok, want, true)
	}
}

// wantAvoid checks AvoidsIn, and with it that a does not dominate b.
func wantAvoid(t *testing.T, g []impl.Block, a string, b string, want string) {
	t.Helper()
	way, ok := impl.AvoidsIn(g, a, b)
	wantText(t, impl.FormatGraph(g)+": AvoidsIn "+a+" "+b, way, ok, want, true)
	if impl.Dominates(g, a, b) {
		t.Errorf("%s: Dominates %s %s = true", impl.FormatGraph(g), a, b)
	}
}

// wantNoAvoid checks that no way to b avoids a, which dominates it.
func wantNoAvoid(t *testing.T, g []impl.Block, a string, b string) {
	t.Helper()
	way, ok := impl.AvoidsIn(g, a, b)
	wantText(t, impl.FormatGraph(g)+": AvoidsIn "+a+" "+b, way, ok, "", false)
	if !impl.Dominates(g, a, b) {
		t.Errorf("%s: Dominates %s %s = false", impl.FormatGraph(g), a, b)
	}
}

func TestTrees(t *testing.T) {
	for text, want := range map[string]string{
		"A?BC,B>D,C>D,D.": "A(B,C,D)",
		"A>B,B?CD,C>B,D.": "A(B(C,D))",
		"A.":              "A",
		"Z>Z":             "Z",
		"A.,B>A":          "A",
		"B>A,A>B":         "B(A)",
		"A?BA,B.":         "A(B)",
		// No block of a loop with two doors dominates the other one.
		"A?BC,B>C,C>B":     "A(B,C)",
		"A?BC,B?CD,C>B,D.": "A(B(D),C)",
		// Children are in the order of the graph: not in that of the alphabet, of Next, or in which they are come to.
		"A?CB,B.,C.":                          "A(B,C)",
		"A?BC,C.,B.":                          "A(C,B)",
		"M?ZA,B>M,A>Q,Q.,Z>Q":                 "M(A,Q,Z)",
		"A?BC,D?EF,F.,B.,E.,C>D":              "A(B,C(D(F,E)))",
		"A?BC,B?DE,C?FG,D.,E.,F>H,G>H,H.,I>D": "A(B(D,E),C(F,G,H))",
	} {
		wantTree(t, parsed(t, text), want)
	}
}

func TestTreeOfTheDocument(t *testing.T) {
	g := parsed(t, "A?BC,B>D,C>D,D.")
	wantPlace(t, g, "A", place{"A", "", "BCD", ""})
	wantPlace(t, g, "B", place{"AB", "A", "", "D"})
	wantPlace(t, g, "C", place{"AC", "A", "", "D"})
	wantPlace(t, g, "D", place{"AD", "A", "", ""})
	wantMeet(t, g, "B", "C", "A")
	wantMeet(t, g, "B", "D", "A")
	wantAvoid(t, g, "B", "D", "r")
	wantAvoid(t, g, "C", "D", "l")
	wantAvoid(t, g, "D", "C", "r")
	wantNoAvoid(t, g, "A", "D")
}

func TestOrderOfDominators(t *testing.T) {
	// What dominates a block is in the order of ways, whatever the order of the graph or of the alphabet is.
	g := parsed(t, "C>B,A.,B?DE,D>F,E>F,F>A")
	wantPlace(t, g, "A", place{"CBFA", "F", "", ""})
	wantPlace(t, g, "F", place{"CBF", "B", "A", ""})
	wantPlace(t, g, "B", place{"CB", "C", "DEF", ""})
	wantTree(t, g, "C(B(D,E,F(A)))")
	// The frontier is in the order of the graph.
	h := parsed(t, "A?BC,F.,B?DE,E>F,D?FC,C>F")
	wantPlace(t, h, "B", place{"AB", "A", "ED", "FC"})
	wantPlace(t, h, "D", place{"ABD", "B", "", "FC"})
	wantPlace(t, h, "A", place{"A", "", "FBC", ""})
}

func TestEntryToWhichSomeGoBack(t *testing.T) {
	g := parsed(t, "A?BC,B>A,C?DA,D>A,E>A")
	wantPlace(t, g, "A", place{"A", "", "BC", "A"})
	wantPlace(t, g, "B", place{"AB", "A", "", "A"})
	wantPlace(t, g, "C", place{"AC", "A", "D", "A"})
	wantPlace(t, g, "D", place{"ACD", "C", "", "A"})
	wantTree(t, g, "A(B,C(D))")
	for _, name := range []string{"B", "C", "D"} {
		// The run comes to the entry before any other block, though others go back to it.
		wantAvoid(t, g, name, "A", "")
		wantMeet(t, g, name, "A", "A")
		wantNoAvoid(t, g, "A", name)
	}
	wantNoAvoid(t, g, "A", "A")
	// The entry need not be first in the alphabet.
	h := parsed(t, "Z>A,A>Z")
	wantPlace(t, h, "Z", place{"Z", "", "A", "Z"})
	wantPlace(t, h, "A", place{"ZA", "Z", "", "Z"})
}

func TestDominatorsOfBlocksThatGoOnToThemselves(t *testing.T) {
	wantPlace(t, parsed(t, "A>A"), "A", place{"A", "", "", "A"})
	wantPlace(t, parsed(t, "A."), "A", place{"A", "", "", ""})
	g := parsed(t, "A>B,B?BC,C?CD,D.,E>E")
	wantPlace(t, g, "A", place{"A", "", "B", ""})
	wantPlace(t, g, "B", place{"AB", "A", "C", "B"})
	wantPlace(t, g, "C", place{"ABC", "B", "D", "C"})
	wantPlace(t, g, "D", place{"ABCD", "C", "", ""})
	wantAvoid(t, g, "C", "B", "")
	wantNoAvoid(t, g, "B", "C")
	wantNoPlace(t, "E goes on to itself but is not reached", g, "E")
}

func TestBlocksInTheirOwnFrontier(t *testing.T) {
	g := parsed(t, "A>B,B?CF,C?DE,D>B,E>C,F.")
	wantPlace(t, g, "A", place{"A", "", "B", ""})
	wantPlace(t, g, "B", place{"AB", "A", "CF", "B"})
	wantPlace(t, g, "C", place{"ABC", "B", "DE", "BC"})
	wantPlace(t, g, "D", place{"ABCD", "C", "", "B"})
	wantPlace(t, g, "E", place{"ABCE", "C", "", "C"})
	wantPlace(t, g, "F", place{"ABF", "B", "", ""})
	// In a loop with two doors, each is in the frontier of the other one, and not in its own.
	h := parsed(t, "A?BC,B>C,C>B")
	wantPlace(t, h, "A", place{"A", "", "BC", ""})
	wantPlace(t, h, "B", place{"AB", "A", "", "C"})
	wantPlace(t, h, "C", place{"AC", "A", "", "B"})
}

func TestUnreachedBlocksDoNotCount(t *testing.T) {
	// D, E and F go on to reached blocks, but no way comes by them.
	g := parsed(t, "A>B,E?CD,B>C,D>C,C.,F?AB")
	wantPlace(t, g, "A", place{"A", "", "B", ""})
	wantPlace(t, g, "B", place{"AB", "A", "C", ""})
	wantPlace(t, g, "C", place{"ABC", "B", "", ""})
	wantTree(t, g, "A(B(C))")
	for _, name := range []string{"D", "E", "F"} {
		wantNoPlace(t, name+" is not reached", g, name)
		for _, other := range []string{"A", "B", "C", "D", "E", "F"} {
			wantNoPair(t, name+" is not reached, "+other+" second", g, name, other)
			wantNoPair(t, name+" is not reached, "+other+" first", g, other, name)
		}
	}
}

func TestNamesThatDominateNothing(t *testing.T) {
	for _, text := range []string{"A>B,B?CD,C>B,D.", "A>A", "A.,B."} {
		g := parsed(t, text)
		for _, name := range []string{"", "E", "Z", "a", "b", "AB", "CD", "BC", "AA", "A ", " A", ".", ">", ",", "(", "\x00", "\xff", "Ä", "A\x00", strings.Repeat("A", 1000)} {
			wantNoPlace(t, text+": "+name, g, name)
			wantNoPair(t, text+": A, "+name, g, "A", name)
			wantNoPair(t, text+": "+name+", A", g, name, "A")
			wantNoPair(t, text+": "+name+" twice", g, name, name)
		}
	}
}

func TestDominatorsOfNoGraph(t *testing.T) {
	for what, g := range badGraphs() {
		for _, name := range []string{"", "A", "B", "AB", "a"} {
			wantNoPlace(t, what+": "+name, g, name)
			for _, other := range []string{"", "A", "B"} {
				wantNoPair(t, what+": "+name+", "+other, g, name, other)
			}
		}
		tree, ok := impl.DominatorTree(g)
		wantText(t, what+": DominatorTree", tree, ok, "", false)
	}
}

func TestSameBlockTwice(t *testing.T) {
	g := parsed(t, "A>B,B?CF,C?DE,D>B,E>C,F.")
	for _, name := range strings.Split("ABCDEF", "") {
		wantNoAvoid(t, g, name, name)
		wantMeet(t, g, name, name, name)
	}
}

func TestMeets(t *testing.T) {
	g := parsed(t, "A>B,B?CF,C?DE,D>B,E>C,F.,G>A")
	for pair, want := range map[string]string{
		"AB": "A", "AF": "A", "BC": "B", "BF": "B", "CF": "B", "DE": "C", "DF": "B", "EF": "B", "CD": "C", "CE": "C", "BE": "B",
	} {
		wantMeet(t, g, pair[:1], pair[1:], want)
	}
	// One path is much longer than the other one.
	h := chainOfAll("")
	h[2].Next = "DZ"
	h[24].Next = "X"
	wantMeet(t, h, "Y", "Z", "C")
	wantMeet(t, h, "B", "Y", "B")
	wantMeet(t, h, "X", "Y", "X")
}

func TestWaysThatAvoid(t *testing.T) {
	g := parsed(t, "A?BC,B>D,C?DE,D.,E>D")
	wantAvoid(t, g, "B", "D", "rl")
	wantAvoid(t, g, "C", "D", "l")
	wantAvoid(t, g, "E", "D", "l")
	wantAvoid(t, g, "D", "C", "r")
	wantAvoid(t, g, "B", "E", "rr")
	for _, pair := range []string{"AB", "AC", "AD", "AE", "CE"} {
		wantNoAvoid(t, g, pair[:1], pair[1:])
	}
	// The shortest way is not meant if it comes by the block, nor the first one of that length.
	h := parsed(t, "A?BC,B?FD,C?DE,D>F,E>F,F.")
	wantAvoid(t, h, "B", "F", "rl")
	wantAvoid(t, h, "C", "F", "ll")
	wantAvoid(t, h, "D", "F", "ll")
	wantAvoid(t, h, "F", "D", "lr")
	wantAvoid(t, h, "E", "F", "ll")
	// A block may be come to by jumps alone, and a jump to the avoided block is a dead end too.
	j := parsed(t, "A>B,B?CD,C>E,D?EF,E>F,F.")
	wantAvoid(t, j, "C", "F", "rl")
	wantAvoid(t, j, "E", "F", "rr")
	wantAvoid(t, j, "D", "F", "l")
	wantAvoid(t, j, "F", "B", "")
	wantNoAvoid(t, j, "B", "F")
}

func TestWaysOfTheSameLengthThatAvoid(t *testing.T) {
	// The four blocks behind the choices all go on to Z; that of the first choices stands last.
	g := parsed(t, "A?CB,Z.,D>Z,E>Z,F>Z,G>Z,B?DE,C?FG")
	wantAvoid(t, g, "D", "Z", "ll")
	wantAvoid(t, g, "F", "Z", "lr")
	wantAvoid(t, g, "G", "Z", "ll")
	wantAvoid(t, g, "C", "Z", "rl")
	// Shorter choices come first even if they are behind in the order of bytes.
	h := parsed(t, "A?BC,B?DE,C>F,D>F,E>F,F.")
	wantAvoid(t, h, "D", "F", "r")
	wantAvoid(t, h, "C", "F", "ll")
}

// ladder returns the graph of 26 blocks whose entry A goes on to Z, which jumps to Y, or to a chain of branches
// of which each goes on to the one behind it with the choice onward, l or r, and back to A with the other one; the last of the chain is Y.
func ladder(onward byte) []impl.Block {
	g := chainOfBranches(onward)
	g[24].Next = ""
	g[25].Next = "Y"
	g[0].Next = "BZ"
	if onward == 'r' {
		g[0].Next = "ZB"
	}
	return g
}

func TestWaysThatNoChoicesTell(t *testing.T) {
	for onward, other := range map[byte]string{'l': "r", 'r': "l"} {
		g := ladder(onward)
		wantWay(t, g, "Y", other, true)
		for i, name := range strings.Split(alphabet[:25], "") {
			wantAvoid(t, g, "Z", name, strings.Repeat(string(onward), i))
			if i > 0 && i < 24 {
				wantAvoid(t, g, name, "Y", other)
				wantNoAvoid(t, g, alphabet[i-1:i], name)
			}
		}
		wantPlace(t, g, "Y", place{"AY", "A", "", ""})
		wantPlace(t, g, "Z", place{"AZ", "A", "", "Y"})
		wantPlace(t, g, "X", place{alphabet[:24], "W", "", "AY"})
	}
}

func TestDeepAndWideTrees(t *testing.T) {
	g := chainOfAll("A")
	wantTree(t, g, strings.Join(strings.Split(alphabet, ""), "(")+strings.Repeat(")", 25))
	wantPlace(t, g, "Z", place{alphabet, "Y", "", "A"})
	wantPlace(t, g, "M", place{alphabet[:13], "L", "N", "A"})
	wantPlace(t, g, "A", place{"A", "", "B", "A"})
	wantNoAvoid(t, g, "Y", "Z")
	wantAvoid(t, g, "Z", "Y", "")
	// The same chain backwards in the order of the graph, behind the entry.
	h := chainOfAll("")
	slices.Reverse(h[1:])
	wantTree(t, h, strings.Join(strings.Split(alphabet, ""), "(")+strings.Repeat(")", 25))
	wantPlace(t, h, "Z", place{alphabet, "Y", "", ""})
	// Each block goes on to the two behind it: none but the entry dominates others, beside B.
	for i := range h[:24] {
		h[25-i] = impl.Block{Name: alphabet[i+1 : i+2], Next: alphabet[i+2 : min(i+4, 26)]}
	}
	h[0].Next = "BC"
	wantTree(t, h, "A("+strings.Join(strings.Split("ZYXWVUTSRQPONMLKJIHGFEDCB", ""), ",")+")")
	wantPlace(t, h, "A", place{"A", "", "ZYXWVUTSRQPONMLKJIHGFEDCB", ""})
	wantPlace(t, h, "M", place{"AM", "A", "", "ON"})
}

// plainTree is what the chapter says about a graph, found by leaving out one block after the other.
type plainTree struct {
	g          []impl.Block
	around     map[string]map[string]string // the ways that avoid a block, or none if its name is empty
	dominators map[string]string            // of the reached blocks only
}

func plainTreeOf(g []impl.Block) plainTree {
	p := plainTree{g, map[string]map[string]string{"": plainWays(g, "")}, map[string]string{}}
	for _, b := range g {
		p.around[b.Name] = plainWays(g, b.Name)
	}
	for _, b := range g {
		list := []string{}
		for _, a := range g {
			if p.dominates(a.Name, b.Name) {
				list = append(list, a.Name)
			}
		}
		// One that dominates another one is avoided by fewer ways: fewer blocks are left without it.
		slices.SortFunc(list, func(x, y string) int { return len(p.around[x]) - len(p.around[y]) })
		if p.reached(b.Name) {
			p.dominators[b.Name] = strings.Join(list, "")
		}
	}
	return p
}

func (p plainTree) reached(name string) bool {
	_, ok := p.around[""][name]
	return ok
}

func (p plainTree) dominates(a, b string) bool {
	_, still := p.around[a][b]
	return p.reached(a) && p.reached(b) && !still
}

func (p plainTree) place(name string) place {
	list := p.dominators[name]
	at := place{dominators: list}
	if len(list) > 1 {
		at.parent = list[len(list)-2 : len(list)-1]
	}
	for _, b := range p.g {
		if other := p.dominators[b.Name]; len(other) > 1 && other[:len(other)-1] == list {
			at.children += b.Name
		}
		stands := slices.ContainsFunc(p.g, func(from impl.Block) bool {
			return p.dominates(name, from.Name) && strings.Contains(from.Next, b.Name)
		})
		if stands && (b.Name == name || !p.dominates(name, b.Name)) {
			at.frontier += b.Name
		}
	}
	return at
}

func (p plainTree) text(name string) string {
	parts := []string{}
	for _, child := range strings.Split(p.place(name).children, "") {
		parts = append(parts, p.text(child))
	}
	if len(parts) == 0 {
		return name
	}
	return name + "(" + strings.Join(parts, ",") + ")"
}

func (p plainTree) meet(a, b string) string {
	x, y := p.dominators[a], p.dominators[b]
	meet := ""
	for i := 0; i < min(len(x), len(y)) && x[i] == y[i]; i++ {
		meet = x[i : i+1]
	}
	return meet
}

// checkPair checks the functions of two blocks against the plain definitions.
func (p plainTree) checkPair(t *testing.T, a, b string) {
	t.Helper()
	way, still := p.around[a][b]
	switch {
	case !p.reached(a) || !p.reached(b):
		wantNoPair(t, impl.FormatGraph(p.g)+": "+a+", "+b, p.g, a, b)
		return
	case still:
		wantAvoid(t, p.g, a, b, way)
	default:
		wantNoAvoid(t, p.g, a, b)
	}
	wantMeet(t, p.g, a, b, p.meet(a, b))
}

// checkPlace checks the functions of one block against the plain definitions.
func (p plainTree) checkPlace(t *testing.T, name string) {
	t.Helper()
	if p.reached(name) {
		wantPlace(t, p.g, name, p.place(name))
	} else {
		wantNoPlace(t, impl.FormatGraph(p.g)+": "+name, p.g, name)
	}
}

func TestDominatorsOfAllSmallGraphs(t *testing.T) {
	for _, names := range []string{"Q", "BA", "CAB"} {
		allGraphs(names, func(g []impl.Block) {
			p := plainTreeOf(g)
			wantTree(t, g, p.text(g[0].Name))
			for _, a := range []string{"A", "B", "C", "Q"} {
				p.checkPlace(t, a)
				for _, b := range []string{"A", "B", "C", "Q"} {
					p.checkPair(t, a, b)
				}
			}
		})
	}
}

func TestAvoidingWaysOfAllSmallGraphs(t *testing.T) {
	// These are the words of the document: the first of all choices with which a run comes to b, and until then not to a.
	allGraphs("CAB", func(g []impl.Block) {
		for _, a := range []string{"A", "B", "C"} {
			for _, b := range []string{"A", "B", "C"} {
				want, wantOK := "", false
				for _, choices := range choicesUpTo(3) {
					trace, _ := plainRun(g, choices)
					i := strings.Index(trace, b)
					if i >= 0 && !strings.Contains(trace[:i+1], a) && strings.Contains(closure(g), a) {
						want, wantOK = choices, true
						break
					}
				}
				got, ok := impl.AvoidsIn(g, a, b)
				wantText(t, impl.FormatGraph(g)+": AvoidsIn "+a+" "+b, got, ok, want, wantOK)
			}
		}
	})
}

// someSize returns how many blocks a graph of a round has: mostly a few, and in each third round more of them, up to all.
func someSize(source *rand.Rand, round int) int {
	if round%3 == 0 {
		return 9 + source.Intn(18)
	}
	return 4 + source.Intn(5)
}

func TestDominatorsOfLargerGraphs(t *testing.T) {
	source := rand.New(rand.NewSource(3))
	for round := range 600 {
		size := someSize(source, round)
		g := someGraph(source, size, 1+source.Intn(8))
		p := plainTreeOf(g)
		wantTree(t, g, p.text(g[0].Name))
		for _, b := range g {
			p.checkPlace(t, b.Name)
			p.checkPair(t, g[source.Intn(size)].Name, b.Name)
			p.checkPair(t, b.Name, g[source.Intn(size)].Name)
		}
	}
}

func TestDominatorsLeaveGraphsAlone(t *testing.T) {
	whole := append(parsed(t, "A>B,B?CD,C>B,D.,E>D"), impl.Block{Name: "X", Next: "Y"})
	before := slices.Clone(whole)
	g := whole[:5]
	for range 2 {
		wantTree(t, g, "A(B(C,D))")
		wantPlace(t, g, "B", place{"AB", "A", "CD", "B"})
		wantMeet(t, g, "C", "D", "B")
		wantAvoid(t, g, "C", "D", "r")
		wantNoAvoid(t, g, "B", "D")
		// No state between calls: another graph has its own tree.
		wantTree(t, parsed(t, "A?BC,B>D,C>D,D."), "A(B,C,D)")
	}
	if !slices.Equal(whole, before) {
		t.Errorf("dominators change their graph: %v", whole)
	}
}
