package tests

import (
	"slices"
	"strings"
	"testing"

	"loop.example/structuredjumps/impl"
)

const alphabet = "ABCDEFGHIJKLMNOPQRSTUVWXYZ"

// parsed returns the graph of a text that must have one.
func parsed(t *testing.T, text string) []impl.Block {
	t.Helper()
	g, ok := impl.ParseGraph(text)
	if !ok {
		t.Fatalf("ParseGraph(%q) returned false", text)
	}
	return g
}

// wantText checks a result that is a text and a bool.
func wantText(t *testing.T, call string, got string, ok bool, want string, wantOK bool) {
	t.Helper()
	if got != want || ok != wantOK {
		t.Errorf("%s = %q, %v; want %q, %v", call, got, ok, want, wantOK)
	}
}

// chainOfAll returns the graph of 26 blocks of which each jumps to the one behind it, and the last one does as last tells.
func chainOfAll(last string) []impl.Block {
	g := make([]impl.Block, len(alphabet))
	for i := range g {
		g[i].Name = alphabet[i : i+1]
		if i+1 < len(alphabet) {
			g[i].Next = alphabet[i+1 : i+2]
		}
	}
	g[len(g)-1].Next = last
	return g
}

// badGraphs are lists of blocks that are no graphs, by what is wrong with them.
func badGraphs() map[string][]impl.Block {
	long := append(chainOfAll(""), impl.Block{Name: "A"})
	huge := make([]impl.Block, 100000)
	for i := range huge {
		huge[i].Name = "A"
	}
	return map[string][]impl.Block{
		"nil":                     nil,
		"empty":                   {},
		"name empty":              {{Name: ""}},
		"name of two letters":     {{Name: "AB"}},
		"small letter":            {{Name: "a"}},
		"ahead of A":              {{Name: "@"}},
		"behind Z":                {{Name: "["}},
		"digit":                   {{Name: "1"}},
		"space":                   {{Name: " "}},
		"zero byte":               {{Name: "\x00"}},
		"byte past ASCII":         {{Name: "\xc1"}},
		"letter past ASCII":       {{Name: "Ä"}},
		"same name":               {{Name: "A"}, {Name: "A"}},
		"same name, one between":  {{Name: "A"}, {Name: "B"}, {Name: "A"}},
		"later name bad":          {{Name: "A"}, {Name: "b"}},
		"next is no block":        {{Name: "A", Next: "B"}},
		"next of later bad":       {{Name: "A", Next: "B"}, {Name: "B", Next: "C"}},
		"second next is no block": {{Name: "A", Next: "AB"}},
		"first next is no block":  {{Name: "A", Next: "BA"}},
		"next twice the same":     {{Name: "A", Next: "BB"}, {Name: "B"}},
		"next twice itself":       {{Name: "A", Next: "AA"}},
		"three next":              {{Name: "A", Next: "ABC"}, {Name: "B"}, {Name: "C"}},
		"small next":              {{Name: "A", Next: "a"}},
		"next with a space":       {{Name: "A", Next: "A "}},
		"next past ASCII":         {{Name: "A", Next: "\xc1"}},
		"unreached block bad":     {{Name: "A"}, {Name: "B", Next: "C"}},
		"27 blocks":               long,
		"100000 blocks":           huge,
		"long name":               {{Name: strings.Repeat("A", 100000)}},
		"long next":               {{Name: "A", Next: strings.Repeat("A", 100000)}},
	}
}

func TestGraphValidAndFormat(t *testing.T) {
	for text, g := range map[string][]impl.Block{
		"A.":              {{Name: "A"}},
		"Z.":              {{Name: "Z"}},
		"A>A":             {{Name: "A", Next: "A"}},
		"A?AB,B?BA":       {{Name: "A", Next: "AB"}, {Name: "B", Next: "BA"}},
		"A?BA,B.":         {{Name: "A", Next: "BA"}, {Name: "B"}},
		"Z>A,A>M,M?ZA":    {{Name: "Z", Next: "A"}, {Name: "A", Next: "M"}, {Name: "M", Next: "ZA"}},
		"A.,B>C,C>B":      {{Name: "A"}, {Name: "B", Next: "C"}, {Name: "C", Next: "B"}},
		"A>B,B?CD,C>B,D.": {{Name: "A", Next: "B"}, {Name: "B", Next: "CD"}, {Name: "C", Next: "B"}, {Name: "D"}},
	} {
		if !impl.GraphValid(g) {
			t.Errorf("GraphValid(%v) = false", g)
		}
		if got := impl.FormatGraph(g); got != text {
			t.Errorf("FormatGraph(%v) = %q, want %q", g, got, text)
		}
		if got, ok := impl.ParseGraph(text); !ok || !slices.Equal(got, g) {
			t.Errorf("ParseGraph(%q) = %v, %v, want %v", text, got, ok, g)
		}
	}
}

func TestBadGraphs(t *testing.T) {
	for what, g := range badGraphs() {
		if impl.GraphValid(g) {
			t.Errorf("%s: GraphValid = true", what)
		}
		if text := impl.FormatGraph(g); text != "" {
			t.Errorf("%s: FormatGraph = %q", what, text)
		}
		names, ok := impl.NamesOf(g)
		wantText(t, what+": NamesOf", names, ok, "", false)
		for _, name := range []string{"A", "B", "AB", "", "a"} {
			next, ok := impl.NextOf(g, name)
			wantText(t, what+": NextOf "+name, next, ok, "", false)
			prev, ok := impl.PrevOf(g, name)
			wantText(t, what+": PrevOf "+name, prev, ok, "", false)
		}
		reached, ok := impl.ReachedOf(g)
		wantText(t, what+": ReachedOf", reached, ok, "", false)
		if pruned, ok := impl.PruneGraph(g); len(pruned) != 0 || ok {
			t.Errorf("%s: PruneGraph = %v, %v", what, pruned, ok)
		}
		if n := impl.CountJumps(g); n != -1 {
			t.Errorf("%s: CountJumps = %d", what, n)
		}
	}
}

func TestParseGraphOfNoGraph(t *testing.T) {
	for _, text := range []string{
		"", ",", ",,", ".", ">", "A", "A,", "A.,", ",A.", "A.,,B.", "A..", "A.B,B.", "A.A",
		"A>", "A>B", "A>AB,B.", "A?", "A?A", "A?B,B.", "A?AA", "A?AB", "A?BB,B.", "A?ABC,B.,C.",
		"A!B,B.", "A,B.", "AB.", "AB", "A B,B.", "A. ,B.", " A.", "A. ", "A.\n", "A.;B.", "a.", "A>a",
		"A.,A.", "A.,B.,A>B", "1.", "Ä.", "A\x00", "A.\x00", "\xff.", "A>\xff", "A.B.", "A>B,B",
		impl.FormatGraph(chainOfAll("")) + ",A.", strings.Repeat("A.,", 100000) + "A.", strings.Repeat("A", 100000),
	} {
		if g, ok := impl.ParseGraph(text); len(g) != 0 || ok {
			t.Errorf("ParseGraph(%.40q) = %v, %v", text, g, ok)
		}
	}
}

func TestGraphOfTheDocument(t *testing.T) {
	g := parsed(t, "A>B,B?CD,C>B,D.")
	names, ok := impl.NamesOf(g)
	wantText(t, "NamesOf", names, ok, "ABCD", true)
	reached, ok := impl.ReachedOf(g)
	wantText(t, "ReachedOf", reached, ok, "ABCD", true)
	for name, want := range map[string][2]string{"A": {"B", ""}, "B": {"CD", "AC"}, "C": {"B", "B"}, "D": {"", "B"}} {
		next, ok := impl.NextOf(g, name)
		wantText(t, "NextOf "+name, next, ok, want[0], true)
		prev, ok := impl.PrevOf(g, name)
		wantText(t, "PrevOf "+name, prev, ok, want[1], true)
	}
	if n := impl.CountJumps(g); n != 4 {
		t.Errorf("CountJumps = %d, want 4", n)
	}
}

func TestNamesThatAreNone(t *testing.T) {
	for _, text := range []string{"A>B,B?CD,C>B,D.", "A>A", "A.,B."} {
		g := parsed(t, text)
		for _, name := range []string{"", "E", "Z", "a", "b", "AB", "CD", "BC", "A ", " A", ".", ">", ",", "\x00", "\xff", "Ä", "A\x00", strings.Repeat("A", 1000)} {
			next, ok := impl.NextOf(g, name)
			wantText(t, text+": NextOf "+name, next, ok, "", false)
			prev, ok := impl.PrevOf(g, name)
			wantText(t, text+": PrevOf "+name, prev, ok, "", false)
		}
	}
}

func TestBlocksThatGoOnToThemselves(t *testing.T) {
	g := parsed(t, "B?BA,A>A,C?AC")
	for name, want := range map[string][2]string{"A": {"A", "BAC"}, "B": {"BA", "B"}, "C": {"AC", "C"}} {
		next, ok := impl.NextOf(g, name)
		wantText(t, "NextOf "+name, next, ok, want[0], true)
		prev, ok := impl.PrevOf(g, name)
		wantText(t, "PrevOf "+name, prev, ok, want[1], true)
	}
	reached, ok := impl.ReachedOf(g)
	wantText(t, "ReachedOf", reached, ok, "BA", true)
	if n := impl.CountJumps(g); n != 5 {
		t.Errorf("CountJumps = %d, want 5", n)
	}
	if n := impl.CountJumps(parsed(t, "A>A")); n != 1 {
		t.Errorf("CountJumps of A>A = %d, want 1", n)
	}
	if n := impl.CountJumps(parsed(t, "A.")); n != 0 {
		t.Errorf("CountJumps of A. = %d, want 0", n)
	}
}

func TestReachedAndPruned(t *testing.T) {
	for _, c := range []struct{ text, reached, pruned string }{
		{"A.", "A", "A."},
		{"A>A", "A", "A>A"},
		{"A.,B.", "A", "A."},
		{"A>A,B>A", "A", "A>A"},
		{"A.,B>C,C>B", "A", "A."},
		{"A>B,B?CD,C>B,D.,E>D", "ABCD", "A>B,B?CD,C>B,D."},
		{"C>A,B>C,A?CD,D.", "CAD", "C>A,A?CD,D."},
		// The order is that of the graph, not that in which blocks are come to, nor that of the alphabet.
		{"M?ZA,B.,A>C,Z.,Y>M,C>Z", "MAZC", "M?ZA,A>C,Z.,C>Z"},
		{"A>D,B.,C>B,D>C", "ABCD", "A>D,B.,C>B,D>C"},
		{"B.,A>B", "B", "B."},
		{"A?BC,B.,C.,D?AE,E>E,F>A", "ABC", "A?BC,B.,C."},
	} {
		g := parsed(t, c.text)
		reached, ok := impl.ReachedOf(g)
		wantText(t, c.text+": ReachedOf", reached, ok, c.reached, true)
		pruned, ok := impl.PruneGraph(g)
		wantText(t, c.text+": PruneGraph", impl.FormatGraph(pruned), ok, c.pruned, true)
	}
}

func TestPrevCountsUnreachedBlocks(t *testing.T) {
	g := parsed(t, "D>B,C?BA,B.,A?DB")
	for name, want := range map[string]string{"D": "A", "C": "", "B": "DCA", "A": "C"} {
		prev, ok := impl.PrevOf(g, name)
		wantText(t, "PrevOf "+name, prev, ok, want, true)
	}
	names, ok := impl.NamesOf(g)
	wantText(t, "NamesOf", names, ok, "DCBA", true)
	if n := impl.CountJumps(g); n != 5 {
		t.Errorf("CountJumps = %d, want 5", n)
	}
}

func TestGraphOfAllLetters(t *testing.T) {
	if impl.MaxBlocks != 26 {
		t.Errorf("MaxBlocks = %d", impl.MaxBlocks)
	}
	g := chainOfAll("A")
	text := impl.FormatGraph(g)
	if !impl.GraphValid(g) || len(text) != 26*4-1 || !strings.HasSuffix(text, ",Y>Z,Z>A") {
		t.Errorf("FormatGraph of 26 blocks = %q", text)
	}
	if got := parsed(t, text); !slices.Equal(got, g) {
		t.Errorf("ParseGraph(%q) = %v", text, got)
	}
	names, ok := impl.NamesOf(g)
	wantText(t, "NamesOf", names, ok, alphabet, true)
	reached, ok := impl.ReachedOf(g)
	wantText(t, "ReachedOf", reached, ok, alphabet, true)
	prev, ok := impl.PrevOf(g, "A")
	wantText(t, "PrevOf A", prev, ok, "Z", true)
	if pruned, ok := impl.PruneGraph(g); !ok || !slices.Equal(pruned, g) {
		t.Errorf("PruneGraph = %v, %v", pruned, ok)
	}
	if n := impl.CountJumps(g); n != 26 {
		t.Errorf("CountJumps = %d, want 26", n)
	}
	for i := range g {
		g[i].Next = "ZA"
	}
	prev, ok = impl.PrevOf(g, "Z")
	wantText(t, "PrevOf Z", prev, ok, alphabet, true)
	reached, ok = impl.ReachedOf(g)
	wantText(t, "ReachedOf of branches", reached, ok, "AZ", true)
	if n := impl.CountJumps(g); n != 52 {
		t.Errorf("CountJumps of branches = %d, want 52", n)
	}
}

// allGraphs calls visit with each graph whose names are those of a text, in its order.
func allGraphs(names string, visit func([]impl.Block)) {
	nexts := []string{""}
	for _, a := range strings.Split(names, "") {
		nexts = append(nexts, a)
		for _, b := range strings.Split(names, "") {
			if a != b {
				nexts = append(nexts, a+b)
			}
		}
	}
	var fill func(g []impl.Block)
	fill = func(g []impl.Block) {
		if len(g) == len(names) {
			visit(slices.Clone(g))
			return
		}
		for _, next := range nexts {
			fill(append(g, impl.Block{Name: names[len(g) : len(g)+1], Next: next}))
		}
	}
	fill(make([]impl.Block, 0, len(names)))
}

// closure returns the names of the blocks that are reached, found by adding blocks until nothing changes.
func closure(g []impl.Block) string {
	in := map[string]bool{g[0].Name: true}
	for range g {
		for _, b := range g {
			for _, next := range strings.Split(b.Next, "") {
				in[next] = in[next] || in[b.Name]
			}
		}
	}
	names := ""
	for _, b := range g {
		if in[b.Name] {
			names += b.Name
		}
	}
	return names
}

// checkSmallGraph checks all functions of the chapter on one graph against the plain definitions.
func checkSmallGraph(t *testing.T, g []impl.Block) {
	t.Helper()
	text := impl.FormatGraph(g)
	if back, ok := impl.ParseGraph(text); !impl.GraphValid(g) || !ok || !slices.Equal(back, g) {
		t.Fatalf("ParseGraph(%q) = %v, %v, want %v", text, back, ok, g)
	}
	jumps, want := 0, closure(g)
	for _, b := range g {
		jumps += len(b.Next)
		next, ok := impl.NextOf(g, b.Name)
		wantText(t, text+": NextOf "+b.Name, next, ok, b.Next, true)
		before := ""
		for _, other := range g {
			if strings.Contains(other.Next, b.Name) {
				before += other.Name
			}
		}
		prev, ok := impl.PrevOf(g, b.Name)
		wantText(t, text+": PrevOf "+b.Name, prev, ok, before, true)
	}
	if n := impl.CountJumps(g); n != jumps {
		t.Errorf("%s: CountJumps = %d, want %d", text, n, jumps)
	}
	reached, ok := impl.ReachedOf(g)
	wantText(t, text+": ReachedOf", reached, ok, want, true)
	kept := slices.DeleteFunc(slices.Clone(g), func(b impl.Block) bool { return !strings.Contains(want, b.Name) })
	if pruned, ok := impl.PruneGraph(g); !ok || !slices.Equal(pruned, kept) {
		t.Errorf("%s: PruneGraph = %v, %v, want %v", text, pruned, ok, kept)
	}
}

func TestAllSmallGraphs(t *testing.T) {
	for names, want := range map[string]int{"Q": 2, "BA": 25, "CAB": 1000} {
		count := 0
		allGraphs(names, func(g []impl.Block) {
			count++
			checkSmallGraph(t, g)
		})
		if count != want {
			t.Errorf("%d graphs of %s, want %d", count, names, want)
		}
	}
}

func TestGraphsShareNoMemory(t *testing.T) {
	text := "A>B,B?CD,C>B,D.,E>D"
	whole := append(parsed(t, text), impl.Block{Name: "X", Next: "Y"}, impl.Block{Name: "Y", Next: "X"})
	before := slices.Clone(whole)
	g := whole[:5]
	impl.GraphValid(g)
	impl.FormatGraph(g)
	impl.NamesOf(g)
	impl.NextOf(g, "B")
	impl.PrevOf(g, "B")
	impl.ReachedOf(g)
	impl.CountJumps(g)
	one, _ := impl.PruneGraph(g)
	two, _ := impl.PruneGraph(g)
	for i := range one[:cap(one)] {
		one[:cap(one)][i] = impl.Block{Name: "Q", Next: "Q"}
	}
	if !slices.Equal(whole, before) || impl.FormatGraph(two) != "A>B,B?CD,C>B,D." {
		t.Errorf("PruneGraph shares memory: %v, %v", whole, two)
	}
	all := parsed(t, "A>A")
	pruned, _ := impl.PruneGraph(all)
	pruned[0].Next = ""
	if impl.FormatGraph(all) != "A>A" {
		t.Errorf("PruneGraph of a graph that is reached shares memory with it")
	}
	again := parsed(t, text)
	again[0].Next = "E"
	if got := impl.FormatGraph(parsed(t, text)); got != text {
		t.Errorf("ParseGraph keeps state: %q", got)
	}
}
