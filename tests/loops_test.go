package tests

import (
	"math/rand"
	"slices"
	"strings"
	"testing"

	"loop.example/structuredjumps/impl"
)

// A flow is what the functions of a whole graph return; jumps have a space between them.
type flow struct {
	order, back, wild, headers, meets string
}

// wantFlow checks the functions of a whole graph.
func wantFlow(t *testing.T, g []impl.Block, want flow) {
	t.Helper()
	call := impl.FormatGraph(g) + ": "
	order, ok := impl.OrderOf(g)
	wantText(t, call+"OrderOf", order, ok, want.order, true)
	back, ok := impl.BackJumps(g)
	wantText(t, call+"BackJumps", strings.Join(back, " "), ok, want.back, true)
	wild, ok := impl.WildJumps(g)
	wantText(t, call+"WildJumps", strings.Join(wild, " "), ok, want.wild, true)
	headers, ok := impl.HeadersOf(g)
	wantText(t, call+"HeadersOf", headers, ok, want.headers, true)
	meets, ok := impl.MeetsOf(g)
	wantText(t, call+"MeetsOf", meets, ok, want.meets, true)
	if got := impl.IsTame(g); got != (want.wild == "") {
		t.Errorf("%sIsTame = %v", call, got)
	}
}

// wantLoop checks the functions of one block; its loop is empty if it is no header.
func wantLoop(t *testing.T, g []impl.Block, name string, loop string, depth int) {
	t.Helper()
	call := impl.FormatGraph(g) + ": "
	got, ok := impl.LoopOf(g, name)
	wantText(t, call+"LoopOf "+name, got, ok, loop, loop != "")
	if got := impl.DepthIn(g, name); got != depth {
		t.Errorf("%sDepthIn %s = %d, want %d", call, name, got, depth)
	}
}

// wantFlows checks the functions of some whole graphs, by their texts.
func wantFlows(t *testing.T, want map[string]flow) {
	t.Helper()
	for text, f := range want {
		wantFlow(t, parsed(t, text), f)
	}
}

func TestFlows(t *testing.T) {
	wantFlows(t, map[string]flow{
		"A?BC,B>D,C>D,D.": {"ABCD", "", "", "", "D"},
		"A>B,B?CD,C>B,D.": {"ABCD", "CB", "", "B", ""},
		"A.":              {"A", "", "", "", ""},
		"B>A,A>B":         {"BA", "AB", "", "B", ""},
		// The second one of Next is gone through first, and so it comes last.
		"A?BC,B.,C.":   {"ABC", "", "", "", ""},
		"A?CB,B.,C.":   {"ACB", "", "", "", ""},
		"A?BC,B>C,C>B": {"ACB", "BC", "BC", "C", "B"},
		"A?CB,B>C,C>B": {"ABC", "CB", "CB", "B", "C"},
		// All behind the second one is gone through before the first one is.
		"A?BC,B?DE,C.,D.,E>C":             {"ABDEC", "", "", "", "C"},
		"A?BC,B>D,C>E,D>E,E.":             {"ABDCE", "", "", "", "E"},
		"A?BC,B?DE,C?FG,D.,E.,F>H,G>H,H.": {"ABDECFGH", "", "", "", "H"},
		// The way order is not the order of the graph, nor that of the alphabet.
		"M>Z,A.,Z?AB,B>Z": {"MZAB", "BZ", "", "Z", ""},
		"D>B,A.,B?AC,C>D": {"DBAC", "CD", "", "D", ""},
		// Jumps back are in the way order of where they come from, and then as they stand in Next.
		"A>B,B?CD,C?AB,D?BA": {"ABCD", "CA CB DB DA", "", "AB", ""},
		"A>B,D?BA,C?AB,B?CD": {"ABCD", "CA CB DB DA", "", "AB", ""},
		// Headers, and where ways meet, are in the order of the graph.
		"A>Z,B?BZ,Z?ZB":          {"AZB", "ZZ BB BZ", "", "BZ", ""},
		"A?BC,Y.,X>Y,B?XY,C?XY":  {"ABCXY", "", "", "", "YX"},
		"A?BC,D?CE,B>D,C?CE,E>A": {"ABDCE", "CC EA", "", "AC", "CE"},
	})
}

func TestFlowsOfBlocksThatGoBackToThemselves(t *testing.T) {
	wantFlows(t, map[string]flow{
		"A>A":              {"A", "AA", "", "A", ""},
		"A?AB,B.":          {"AB", "AA", "", "A", ""},
		"A?BA,B.":          {"AB", "AA", "", "A", ""},
		"A>B,B?BC,C?CD,D.": {"ABCD", "BB CC", "", "BC", ""},
		"A?BC,B?BC,C>C":    {"ABC", "BB CC", "", "BC", "C"},
	})
	g := parsed(t, "A>B,B?BC,C?CD,D.,E>E")
	wantLoop(t, g, "A", "", 0)
	wantLoop(t, g, "B", "B", 1)
	wantLoop(t, g, "C", "C", 1)
	wantLoop(t, g, "D", "", 0)
	wantLoop(t, g, "E", "", -1)
	// One that goes back to itself may lie in another loop too, or have a larger loop itself.
	h := parsed(t, "A>B,B?BC,C?CA")
	wantFlow(t, h, flow{"ABC", "BB CC CA", "", "ABC", ""})
	wantLoop(t, h, "A", "ABC", 1)
	wantLoop(t, h, "B", "B", 2)
	wantLoop(t, h, "C", "C", 2)
	k := parsed(t, "A?AB,B>A")
	wantFlow(t, k, flow{"AB", "AA BA", "", "A", ""})
	wantLoop(t, k, "A", "AB", 1)
	wantLoop(t, k, "B", "", 1)
}

func TestJumpsForwardThatMeet(t *testing.T) {
	wantFlows(t, map[string]flow{
		// One jump forward and one back do not meet.
		"A>B,B>C,C?BD,D.": {"ABCD", "CB", "", "B", ""},
		// Two jumps forward meet, also where one goes back; two that go back do not meet.
		"A?BC,B>D,C>D,D?DE,E.": {"ABCDE", "DD", "", "D", "D"},
		"A>B,B?CD,C?BD,D>B":    {"ABCD", "CB DB", "", "B", "D"},
		"A?BC,B?AC,C>A":        {"ABC", "BA CA", "", "A", "C"},
		// More than two meet too.
		"A?BD,B?CD,C>D,D.": {"ABCD", "", "", "", "D"},
		// Jumps of blocks that are not reached do not count.
		"B?AC,A.,C.,D?AC,E>A": {"BAC", "", "", "", ""},
		"A?BC,B.,C>D,D.,E>D":  {"ABCD", "", "", "", ""},
	})
}

func TestFlowsOfUnreachedBlocks(t *testing.T) {
	wantFlows(t, map[string]flow{
		"A.,B>A":                       {"A", "", "", "", ""},
		"A.,B>B":                       {"A", "", "", "", ""},
		"C>A,D>A,A>B,B?AE,E.,F?BC":     {"CABE", "BA", "", "A", ""},
		"A>A,B?CD,C>D,D>C":             {"A", "AA", "", "A", ""},
		"A>B,B?CF,C?DE,D>B,E>C,F.,G>C": {"ABCDEF", "DB EC", "", "BC", ""},
	})
	// What is not reached lies in no loop, wherever it goes on to.
	g := parsed(t, "A>B,D>C,B>C,E?BA,C?BF,F.,G>G")
	wantLoop(t, g, "A", "", 0)
	wantLoop(t, g, "B", "BC", 1)
	wantLoop(t, g, "C", "", 1)
	wantLoop(t, g, "F", "", 0)
	for _, name := range []string{"D", "E", "G"} {
		wantLoop(t, g, name, "", -1)
	}
}

// wantLoops checks the loops and the depth of all blocks; loops are by their headers, depths are one digit for each block in the order of the graph.
func wantLoops(t *testing.T, text string, depths string, loops map[string]string) {
	t.Helper()
	g := parsed(t, text)
	for i, b := range g {
		wantLoop(t, g, b.Name, loops[b.Name], int(depths[i]-'0'))
	}
}

func TestLoopsOfOneHeader(t *testing.T) {
	wantLoops(t, "A>B,B?CD,C>B,D.", "0110", map[string]string{"B": "BC"})
	wantLoops(t, "A>B,B>A", "11", map[string]string{"A": "AB"})
	// What leaves the loop is not in it, wherever it leaves.
	wantLoops(t, "A>B,B?CD,C?EB,D.,E.", "01100", map[string]string{"B": "BC"})
	// Ways that part and meet within the loop, and several ways back.
	wantLoops(t, "A>B,B?CD,C?EF,D.,E>G,F>G,G>B", "0110111", map[string]string{"B": "BCEFG"})
	wantLoops(t, "A>B,B?CD,C?BD,D>B", "0111", map[string]string{"B": "BCD"})
	// Blocks of a loop are in the order of the graph, and the header need not be the first one.
	wantLoops(t, "M>Z,C.,A>Z,Z?AB,B?ZC", "00111", map[string]string{"Z": "AZB"})
	// What goes on to the header from outside is not in the loop.
	wantLoops(t, "A?BC,B>D,C>D,D?EF,E>D,F.", "000110", map[string]string{"D": "DE"})
}

func TestLoopsWithinLoops(t *testing.T) {
	wantLoops(t, "A>B,B?CF,C?DE,D>B,E>C,F.", "012120", map[string]string{"B": "BCDE", "C": "CE"})
	wantLoops(t, "A>B,B>C,C?CD,D?BE,E?AF,F.", "123210", map[string]string{"A": "ABCDE", "B": "BCD", "C": "C"})
	// Two loops beside each other in a third one.
	wantLoops(t, "A>B,B?BC,C?DE,D>C,E?AF,F.", "122210", map[string]string{"A": "ABCDE", "B": "B", "C": "CD"})
	// The inner one may go back to the header of the outer one, and may be left from its middle.
	wantLoops(t, "A>B,B>C,C?AD,D?BE,E.", "12220", map[string]string{"A": "ABCD", "B": "BCD"})
	wantLoops(t, "D>C,A?DE,B?CA,C>B,E.", "11220", map[string]string{"D": "DABC", "C": "BC"})
}

func TestManyLoopsWithinEachOther(t *testing.T) {
	// A to M are headers, and Z to N go back to these or on to the next one.
	g := chainOfAll("A")
	for i := 13; i < 25; i++ {
		g[i].Next = alphabet[25-i:26-i] + g[i].Next
	}
	back := []string{}
	for i := 13; i < 26; i++ {
		back = append(back, alphabet[i:i+1]+alphabet[25-i:26-i])
	}
	wantFlow(t, g, flow{alphabet, strings.Join(back, " "), "", alphabet[:13], ""})
	for i, b := range g {
		if i < 13 {
			wantLoop(t, g, b.Name, alphabet[i:26-i], i+1)
		} else {
			wantLoop(t, g, b.Name, "", 26-i)
		}
	}
}

func TestLoopsOfAllLetters(t *testing.T) {
	g := chainOfAll("A")
	wantFlow(t, g, flow{alphabet, "ZA", "", "A", ""})
	for _, b := range g {
		loop := ""
		if b.Name == "A" {
			loop = alphabet
		}
		wantLoop(t, g, b.Name, loop, 1)
	}
	// Each block goes on to the one behind it and back to the entry, whichever stands first.
	for _, onward := range []byte("lr") {
		h := chainOfBranches(onward)
		back := strings.Join(strings.Split(alphabet[1:25], ""), "A ") + "A"
		// The entry goes back to itself.
		wantFlow(t, h, flow{alphabet, "AA " + back, "", "A", ""})
		wantLoop(t, h, "A", alphabet[:25], 1)
		wantLoop(t, h, "Y", "", 1)
		wantLoop(t, h, "Z", "", 0)
	}
	// The chain behind the entry may stand backwards in the graph, which does not change the way order.
	slices.Reverse(g[1:])
	wantFlow(t, g, flow{alphabet, "ZA", "", "A", ""})
	wantLoop(t, g, "A", "AZYXWVUTSRQPONMLKJIHGFEDCB", 1)
}

func TestWildJumps(t *testing.T) {
	wantFlows(t, map[string]flow{
		"A?BC,B>C,C>B":              {"ACB", "BC", "BC", "C", "B"},
		"A?BC,B?CD,C?BD,D.":         {"ACBD", "BC", "BC", "C", "BD"},
		"A?BC,B>E,C?DE,D.,E>C":      {"ABCDE", "EC", "EC", "C", "E"},
		"A?WH,H?TW,T>H,W>H":         {"AHTW", "TH WH", "WH", "H", "W"},
		"A?HW,H?TW,T>H,W>H":         {"AWHT", "HW TH", "HW", "HW", "H"},
		"A>B,B?CD,C>D,D?CE,E?BF,F.": {"ABDCEF", "CD EB", "CD", "BD", "C"},
		"A?BC,B>D,C>B,D?DC":         {"ACBD", "DD DC", "DC", "CD", "B"},
		"A?BC,B>D,C>D,D?BC":         {"ACDB", "DC BD", "DC BD", "CD", "B"},
		"A?BC,B>C,C>B,D?EF,E>F,F>E": {"ACB", "BC", "BC", "C", "B"},
	})
}

func TestLoopsOfWildHeaders(t *testing.T) {
	// The loop of a header to which only wild jumps go back is itself alone, and it lies in it.
	wantLoops(t, "A?BC,B>C,C>B", "001", map[string]string{"C": "C"})
	wantLoops(t, "A?BC,B?CD,C?BD,D.", "0010", map[string]string{"C": "C"})
	wantLoops(t, "A?BC,B>D,C>D,D?BC", "0011", map[string]string{"C": "C", "D": "D"})
	// Where tame jumps go back too, the loop has what comes by these, and nothing that goes back wild.
	wantLoops(t, "A?WH,H?TW,T>H,W>H", "0110", map[string]string{"H": "HT"})
	wantLoops(t, "A?HW,H?TW,T>H,W>H", "0111", map[string]string{"H": "HT", "W": "W"})
	// Wild jumps lie within tame loops like others.
	wantLoops(t, "A>B,B?CD,C>D,D?CE,E?BF,F.", "011210", map[string]string{"B": "BCDE", "D": "D"})
	wantLoops(t, "A?BC,B>D,C>B,D?DC", "0011", map[string]string{"C": "C", "D": "D"})
}

func TestLoopsOfNames(t *testing.T) {
	for _, text := range []string{"A>B,B?CD,C>B,D.", "A>A", "A.,B.", "A?BC,B>C,C>B"} {
		g := parsed(t, text)
		for _, name := range []string{"", "E", "Z", "a", "b", "AB", "CB", "BC", "AA", "A ", " A", ".", ">", ",", "\x00", "\xff", "Ä", "A\x00", strings.Repeat("A", 1000)} {
			wantLoop(t, g, name, "", -1)
		}
	}
}

func TestLoopsOfNoGraph(t *testing.T) {
	for what, g := range badGraphs() {
		order, ok := impl.OrderOf(g)
		wantText(t, what+": OrderOf", order, ok, "", false)
		if back, ok := impl.BackJumps(g); len(back) != 0 || ok {
			t.Errorf("%s: BackJumps = %v, %v", what, back, ok)
		}
		if wild, ok := impl.WildJumps(g); len(wild) != 0 || ok {
			t.Errorf("%s: WildJumps = %v, %v", what, wild, ok)
		}
		if impl.IsTame(g) {
			t.Errorf("%s: IsTame = true", what)
		}
		headers, ok := impl.HeadersOf(g)
		wantText(t, what+": HeadersOf", headers, ok, "", false)
		meets, ok := impl.MeetsOf(g)
		wantText(t, what+": MeetsOf", meets, ok, "", false)
		for _, name := range []string{"", "A", "B", "AB", "a"} {
			loop, ok := impl.LoopOf(g, name)
			wantText(t, what+": LoopOf "+name, loop, ok, "", false)
			if depth := impl.DepthIn(g, name); depth != -1 {
				t.Errorf("%s: DepthIn %s = %d", what, name, depth)
			}
		}
	}
}

// plainLoops is what the chapter says about a graph, found with texts alone.
type plainLoops struct {
	plainTree
	order string
}

func plainLoopsOf(g []impl.Block) plainLoops {
	p := plainLoops{plainTreeOf(g), ""}
	begun := ""
	var through func(name string)
	through = func(name string) {
		begun += name
		next := p.next(name)
		for i := len(next); i > 0; i-- {
			if to := next[i-1 : i]; !strings.Contains(begun, to) {
				through(to)
			}
		}
		p.order = name + p.order
	}
	through(g[0].Name)
	return p
}

func (p plainLoops) next(name string) string {
	i := slices.IndexFunc(p.g, func(b impl.Block) bool { return b.Name == name })
	return p.g[i].Next
}

// jumps returns the jumps that go back, or forward, in the way order.
func (p plainLoops) jumps(back bool) []string {
	list := []string{}
	for i, from := range strings.Split(p.order, "") {
		for _, to := range strings.Split(p.next(from), "") {
			if back == (strings.Index(p.order, to) <= i) {
				list = append(list, from+to)
			}
		}
	}
	return list
}

// wild reports whether the second block of a jump does not dominate the first one.
func (p plainLoops) wild(jump string) bool {
	return !p.dominates(jump[1:], jump[:1])
}

// goals returns the names of the blocks to which at least so many of some jumps go.
func (p plainLoops) goals(jumps []string, least int) string {
	names := ""
	for _, b := range p.g {
		count := 0
		for _, jump := range jumps {
			if jump[1:] == b.Name {
				count++
			}
		}
		if count >= least {
			names += b.Name
		}
	}
	return names
}

func (p plainLoops) flow() flow {
	back := p.jumps(true)
	wild := []string{}
	for _, jump := range back {
		if p.wild(jump) {
			wild = append(wild, jump)
		}
	}
	return flow{p.order, strings.Join(back, " "), strings.Join(wild, " "), p.goals(back, 1), p.goals(p.jumps(false), 2)}
}

// loop returns the header, and the reached blocks from which some way that does not come by it comes to one of those that go back tame.
func (p plainLoops) loop(header string) string {
	names := ""
	for i, b := range p.g {
		// The ways from a block are those of the graph whose entry it is.
		turned := append(slices.Clone(p.g[i:]), p.g[:i]...)
		ways := plainWays(turned, header)
		in := b.Name == header
		for _, jump := range p.jumps(true) {
			_, comes := ways[jump[:1]]
			in = in || jump[1:] == header && !p.wild(jump) && comes
		}
		if in && p.reached(b.Name) {
			names += b.Name
		}
	}
	return names
}

// check checks all functions of the chapter on a graph against the plain definitions.
func (p plainLoops) check(t *testing.T) {
	t.Helper()
	want := p.flow()
	wantFlow(t, p.g, want)
	loops := map[string]string{}
	for _, header := range strings.Split(want.headers, "") {
		loops[header] = p.loop(header)
	}
	for _, b := range p.g {
		depth := 0
		for _, loop := range loops {
			if strings.Contains(loop, b.Name) {
				depth++
			}
		}
		if !p.reached(b.Name) {
			depth = -1
		}
		wantLoop(t, p.g, b.Name, loops[b.Name], depth)
	}
}

func TestLoopsOfAllSmallGraphs(t *testing.T) {
	for _, names := range []string{"Q", "BA", "CAB"} {
		allGraphs(names, func(g []impl.Block) { plainLoopsOf(g).check(t) })
	}
}

// tameGraph returns a graph that is tame, as blocks go on to later ones or back to what dominates them, in some order behind the entry.
func tameGraph(source *rand.Rand, n int) []impl.Block {
	g := make([]impl.Block, n)
	for i, k := range source.Perm(26)[:n] {
		g[i].Name = alphabet[k : k+1]
	}
	for i := range g[:n-1] {
		// Going on to the next block keeps most blocks reached.
		g[i].Next = g[i+1].Name
		if other := g[i+1+source.Intn(n-i-1)].Name; source.Intn(3) == 0 && other != g[i].Next {
			g[i].Next = other + g[i].Next
		}
	}
	p := plainTreeOf(g)
	for i := range g {
		if up := p.dominators[g[i].Name]; len(g[i].Next) < 2 && up != "" && source.Intn(2) == 0 {
			k := source.Intn(len(up))
			g[i].Next += up[k : k+1]
		}
	}
	source.Shuffle(n-1, func(i, k int) { g[i+1], g[k+1] = g[k+1], g[i+1] })
	return g
}

func TestLoopsOfLargerGraphs(t *testing.T) {
	source := rand.New(rand.NewSource(4))
	for round := range 600 {
		size := someSize(source, round)
		plainLoopsOf(someGraph(source, size, 1+source.Intn(8))).check(t)
		g := tameGraph(source, size)
		plainLoopsOf(g).check(t)
		if !impl.IsTame(g) {
			t.Errorf("IsTame(%q) = false", impl.FormatGraph(g))
		}
	}
}

// circles reports whether some way goes on forever by jumps whose second block does not dominate the first one.
func (p plainTree) circles() bool {
	left := []impl.Block{}
	for _, b := range p.g {
		if p.reached(b.Name) {
			left = append(left, b)
		}
	}
	for len(left) > 0 {
		// What goes on to none of those that are left lies on no circle of them.
		count := len(left)
		left = slices.DeleteFunc(slices.Clone(left), func(b impl.Block) bool {
			return !slices.ContainsFunc(left, func(to impl.Block) bool {
				return strings.Contains(b.Next, to.Name) && !p.dominates(to.Name, b.Name)
			})
		})
		if len(left) == count {
			return true
		}
	}
	return false
}

// checkDoors checks that a graph is tame exactly if no circle is left without jumps to what dominates a block, and that each loop then has one door.
func checkDoors(t *testing.T, g []impl.Block) {
	t.Helper()
	p := plainTreeOf(g)
	text := impl.FormatGraph(g)
	if got := impl.IsTame(g); got == p.circles() {
		t.Errorf("IsTame(%q) = %v", text, got)
	}
	headers, _ := impl.HeadersOf(g)
	for _, header := range strings.Split(headers, "") {
		loop, _ := impl.LoopOf(g, header)
		for _, b := range g {
			for _, to := range strings.Split(b.Next, "") {
				if p.reached(b.Name) && !strings.Contains(loop, b.Name) && to != header && strings.Contains(loop, to) {
					t.Errorf("%s: %s goes on into the loop %s of %s, past its header", text, b.Name, loop, header)
				}
			}
		}
	}
	if impl.IsTame(g) {
		checkTurned(t, g)
	}
}

// checkTurned checks that which of two comes first in Next changes no loop of a tame graph.
func checkTurned(t *testing.T, g []impl.Block) {
	t.Helper()
	turned := slices.Clone(g)
	for i, b := range g {
		if len(b.Next) == 2 {
			turned[i].Next = b.Next[1:] + b.Next[:1]
		}
	}
	call := impl.FormatGraph(turned) + ": "
	one, _ := impl.BackJumps(g)
	two, _ := impl.BackJumps(turned)
	slices.Sort(one)
	slices.Sort(two)
	if !slices.Equal(one, two) {
		t.Errorf("%sBackJumps = %v, and %v if not turned", call, two, one)
	}
	for _, b := range g {
		loop, _ := impl.LoopOf(g, b.Name)
		wantLoop(t, turned, b.Name, loop, impl.DepthIn(g, b.Name))
	}
}

func TestDoorsOfLoops(t *testing.T) {
	for _, names := range []string{"Q", "BA", "CAB"} {
		allGraphs(names, func(g []impl.Block) { checkDoors(t, g) })
	}
	source := rand.New(rand.NewSource(5))
	for range 300 {
		checkDoors(t, someGraph(source, 4+source.Intn(8), 1+source.Intn(8)))
		checkDoors(t, tameGraph(source, 2+source.Intn(25)))
	}
}

func TestJumpsShareNoMemory(t *testing.T) {
	whole := append(parsed(t, "A?BC,B>C,C?BD,D>D,E>D"), impl.Block{Name: "X", Next: "Y"})
	before := slices.Clone(whole)
	g := whole[:5]
	for range 2 {
		back, _ := impl.BackJumps(g)
		wild, _ := impl.WildJumps(g)
		for _, list := range [][]string{back, wild} {
			list = list[:cap(list)]
			for i := range list {
				list[i] = "QQ"
			}
		}
		// No state between calls: neither what was written into a result nor another graph changes the next one.
		wantFlow(t, parsed(t, "A>B,B?CD,C>B,D."), flow{"ABCD", "CB", "", "B", ""})
		wantFlow(t, g, flow{"ACBD", "BC DD", "BC", "CD", "B"})
		wantLoop(t, g, "D", "D", 1)
		wantLoop(t, g, "B", "", 0)
	}
	if !slices.Equal(whole, before) {
		t.Errorf("loops change their graph: %v", whole)
	}
}
