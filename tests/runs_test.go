package tests

import (
	"math/rand"
	"slices"
	"strconv"
	"strings"
	"testing"

	"loop.example/structuredjumps/impl"
)

// wantRun checks one run of a graph.
func wantRun(t *testing.T, g []impl.Block, choices string, trace string, end int) {
	t.Helper()
	got, gotEnd, ok := impl.RunGraph(g, choices)
	if got != trace || gotEnd != end || !ok {
		t.Errorf("RunGraph(%q, %q) = %q, %d, %v; want %q, %d, true", impl.FormatGraph(g), choices, got, gotEnd, ok, trace, end)
	}
}

// wantWay checks WayTo for one block of a graph.
func wantWay(t *testing.T, g []impl.Block, name string, want string, wantOK bool) {
	t.Helper()
	got, ok := impl.WayTo(g, name)
	wantText(t, "WayTo("+impl.FormatGraph(g)+", "+strconv.Quote(name)+")", got, ok, want, wantOK)
}

// wantStop checks StopsWith and CanStop of a graph.
func wantStop(t *testing.T, g []impl.Block, want string, wantOK bool) {
	t.Helper()
	got, ok := impl.StopsWith(g)
	wantText(t, "StopsWith("+impl.FormatGraph(g)+")", got, ok, want, wantOK)
	if can := impl.CanStop(g); can != wantOK {
		t.Errorf("CanStop(%q) = %v, want %v", impl.FormatGraph(g), can, wantOK)
	}
}

// chainOfBranches returns the graph of 26 blocks of which each but the last branches:
// with the choice onward, l or r, to the one behind it, and with the other choice to the entry.
func chainOfBranches(onward byte) []impl.Block {
	g := chainOfAll("")
	for i := range len(g) - 1 {
		if onward == 'l' {
			g[i].Next = g[i].Next + "A"
		} else {
			g[i].Next = "A" + g[i].Next
		}
	}
	return g
}

func TestConstantsOfRuns(t *testing.T) {
	if impl.MaxChoices != 20 || impl.MaxTrace != 60 {
		t.Errorf("MaxChoices = %d, MaxTrace = %d", impl.MaxChoices, impl.MaxTrace)
	}
	if impl.EndStop != 0 || impl.EndAsk != 1 || impl.EndLong != 2 {
		t.Errorf("EndStop = %d, EndAsk = %d, EndLong = %d", impl.EndStop, impl.EndAsk, impl.EndLong)
	}
	for end, want := range map[int]string{
		impl.EndStop: "stop", impl.EndAsk: "ask", impl.EndLong: "long",
		-1: "", 3: "", 4: "", 256: "", -1 << 31: "", 1<<63 - 1: "", -1 << 63: "",
	} {
		if got := impl.NameOfEnd(end); got != want {
			t.Errorf("NameOfEnd(%d) = %q, want %q", end, got, want)
		}
	}
}

func TestChoicesValid(t *testing.T) {
	for _, choices := range []string{"", "l", "r", "lr", "rl", strings.Repeat("l", 20), strings.Repeat("r", 20), strings.Repeat("lr", 10)} {
		if !impl.ChoicesValid(choices) {
			t.Errorf("ChoicesValid(%q) = false", choices)
		}
	}
	g := parsed(t, "A>B,B?CD,C>B,D.")
	for _, choices := range []string{
		"L", "R", "x", " ", "k", "m", "q", "s", "0", "1", ",", "\x00", "\xff", "ł", "l ", " l", "l\n", "lx", "xl", "lrxrl", "l\x00", "ll\xec",
		strings.Repeat("l", 19) + "x", strings.Repeat("l", 21), strings.Repeat("r", 21), strings.Repeat("l", 20) + "x", strings.Repeat("lr", 100000),
	} {
		if impl.ChoicesValid(choices) {
			t.Errorf("ChoicesValid(%.40q) = true", choices)
		}
		if trace, end, ok := impl.RunGraph(g, choices); trace != "" || end != 0 || ok {
			t.Errorf("RunGraph(%.40q) = %q, %d, %v", choices, trace, end, ok)
		}
	}
}

func TestRunOfTheDocument(t *testing.T) {
	g := parsed(t, "A>B,B?CD,C>B,D.")
	wantRun(t, g, "lr", "ABCBD", impl.EndStop)
	wantRun(t, g, "", "AB", impl.EndAsk)
	wantRun(t, g, "r", "ABD", impl.EndStop)
	wantRun(t, g, "l", "ABCB", impl.EndAsk)
	wantRun(t, g, "ll", "ABCBCB", impl.EndAsk)
	wantRun(t, g, strings.Repeat("l", 20), "AB"+strings.Repeat("CB", 20), impl.EndAsk)
	wantRun(t, g, strings.Repeat("l", 19)+"r", "AB"+strings.Repeat("CB", 19)+"D", impl.EndStop)
	for name, want := range map[string]string{"A": "", "B": "", "C": "l", "D": "r"} {
		wantWay(t, g, name, want, true)
	}
	wantStop(t, g, "r", true)
}

func TestChoicesLeftOver(t *testing.T) {
	g := parsed(t, "A>B,B?CD,C>B,D.")
	wantRun(t, g, "rl", "ABD", impl.EndStop)
	wantRun(t, g, "lrr", "ABCBD", impl.EndStop)
	wantRun(t, g, strings.Repeat("r", 20), "ABD", impl.EndStop)
	wantRun(t, parsed(t, "A."), "", "A", impl.EndStop)
	wantRun(t, parsed(t, "A."), "lr", "A", impl.EndStop)
	wantRun(t, parsed(t, "B>A,A."), "r", "BA", impl.EndStop)
	wantRun(t, parsed(t, "A>A"), strings.Repeat("l", 20), strings.Repeat("A", 60), impl.EndLong)
	// Choices that are left over have to be choices all the same.
	if trace, end, ok := impl.RunGraph(parsed(t, "A."), "lx"); trace != "" || end != 0 || ok {
		t.Errorf("RunGraph(A., lx) = %q, %d, %v", trace, end, ok)
	}
}

func TestLoopsWithoutChoice(t *testing.T) {
	wantRun(t, parsed(t, "A>A"), "", strings.Repeat("A", 60), impl.EndLong)
	wantRun(t, parsed(t, "B>A,A>B"), "", strings.Repeat("BA", 30), impl.EndLong)
	wantRun(t, parsed(t, "A>B,B>C,C>B,D."), "rr", "A"+strings.Repeat("BC", 29)+"B", impl.EndLong)
	wantRun(t, parsed(t, "A?BC,B>B,C."), "l", "A"+strings.Repeat("B", 59), impl.EndLong)
	wantRun(t, chainOfAll("A"), "", alphabet+alphabet+alphabet[:8], impl.EndLong)
}

// roundsThenChain returns a graph whose entry A jumps to B, which branches to A or to a chain of blocks by jumps.
// The last block of the chain does as last tells. With n choices l and one r, a run comes to A and B n+1 times, and then to the chain.
func roundsThenChain(length int, last string) []impl.Block {
	g := []impl.Block{{Name: "A", Next: "B"}, {Name: "B", Next: "AC"}}
	for i := range length {
		g = append(g, impl.Block{Name: alphabet[i+2 : i+3], Next: string(rune('D' + i))})
	}
	g[len(g)-1].Next = last
	return g
}

func TestAroundTheSixtiethBlock(t *testing.T) {
	choices := strings.Repeat("l", 17) + "r"
	lead := strings.Repeat("AB", 18)
	for length := 22; length <= 24; length++ {
		trace := lead + alphabet[2:2+length]
		last := trace[len(trace)-1:]
		wantRun(t, roundsThenChain(length, ""), choices, trace, impl.EndStop)
		wantRun(t, roundsThenChain(length, "AB"), choices, trace, impl.EndAsk)
		wantRun(t, roundsThenChain(length, last), choices, trace+strings.Repeat(last, 60-len(trace)), impl.EndLong)
	}
	// One round more: the sixtieth block is the last but two of the longest chain, the last but one of the second, and the last of the third.
	choices, lead = "l"+choices, "AB"+lead
	for length, next := range map[int][3]int{24: {2, 2, 2}, 23: {2, 2, 2}, 22: {0, 1, 2}} {
		trace := lead + alphabet[2:24]
		wantRun(t, roundsThenChain(length, ""), choices, trace, next[0])
		wantRun(t, roundsThenChain(length, "AB"), choices, trace, next[1])
		wantRun(t, roundsThenChain(length, "A"), choices, trace, next[2])
	}
	// The sixtieth block branches: with a choice left, the run would go on.
	wantRun(t, roundsThenChain(22, "AB"), choices+"l", lead+alphabet[2:24], impl.EndLong)
	wantRun(t, roundsThenChain(21, "AB"), choices+"l", lead+alphabet[2:23]+"A", impl.EndLong)
	wantRun(t, roundsThenChain(21, "AB"), choices+"r", lead+alphabet[2:23]+"B", impl.EndAsk)
	wantRun(t, roundsThenChain(22, ""), choices+"l", lead+alphabet[2:24], impl.EndStop)
}

func TestShortestWays(t *testing.T) {
	g := parsed(t, "A?BC,B?DE,C>E,D>A,E?BF,F.,G.")
	for name, want := range map[string]string{"A": "", "B": "l", "C": "r", "D": "ll", "E": "r", "F": "rr"} {
		wantWay(t, g, name, want, true)
	}
	wantStop(t, g, "rr", true)
	// Of ways of the same length, the first in the order of bytes, whichever block it comes by and wherever that stands.
	for text, want := range map[string]string{
		"A?BC,B>D,C>D,D.":                         "l",
		"A?CB,B>D,C>D,D.":                         "l",
		"A?BC,B?BD,C?DC,D.":                       "lr",
		"A?BC,B?BD,C?DC,D?ED,E.":                  "lr",
		"A?BC,B>E,C?DE,E?FB,F?BD,D.":              "rl",
		"A?CB,D.,C?EC,B?EB,E>D":                   "ll",
		"A?BC,B?FG,C>H,F>D,G>D,H>D,D.":            "r",
		"A?BC,B>E,E>F,F>G,G>D,C>D,D.":             "l",
		"A?BC,B?EF,C?DE,E?BF,F?BE,D.":             "rl",
		"A?BC,B?HE,C?EB,E?DE,H?IE,I?HE,D.":        "lrl",
		"A?AB,B?AD,D.":                            "rr",
		"D.,A>D":                                  "",
		"A>B,B>C,C>D,D.":                          "",
		"A>B,B>C,C?AE,E>F,F>D,D>A":                "r",
		"A?BC,B?DC,C?DB,D>D":                      "ll",
		"A?BC,B?BC,C>D,D.":                        "r",
		"A?BC,C?DE,B?EF,F?GH,E?GH,G?DH,H?DG,D?AB": "rl",
	} {
		wantWay(t, parsed(t, text), "D", want, true)
	}
	// A way of jumps needs no choice, however long it is.
	wantWay(t, chainOfAll(""), "Z", "", true)
	wantStop(t, chainOfAll(""), "", true)
}

func TestStopsWith(t *testing.T) {
	for text, want := range map[string]string{
		"A.":                            "",
		"A>B,B.":                        "",
		"A?BC,B.,C.":                    "l",
		"A?CB,B.,C.":                    "l",
		"A?BC,B>B,C.":                   "r",
		"A?BC,B?DA,C.,D.":               "r",
		"A?BC,B?AD,C?EA,D.,E.":          "lr",
		"A?BC,B?AD,C?EA,E.,D.":          "lr",
		"A?BC,C?AD,B?EA,D.,E.":          "ll",
		"A?BC,B?DE,C?FG,D>A,E>A,F.,G.":  "rl",
		"A?BC,B>D,D?DE,C>F,F?GF,E.,G.":  "lr",
		"A?BC,B>A,C>D,D?BE,E>C,F.,Z>Z":  "-",
		"A>A,B.":                        "-",
		"A>A":                           "-",
		"A?AB,B>A":                      "-",
		"A?BC,B>C,C>B,D.,E>D":           "-",
		"A?AB,B?BC,C?CD,D?DE,E?EF,F?FA": "-",
	} {
		wantStop(t, parsed(t, text), strings.Trim(want, "-"), want != "-")
	}
}

func TestWaysThatNoTwentyChoicesTell(t *testing.T) {
	for _, onward := range []byte("lr") {
		g := chainOfBranches(onward)
		for i := range g {
			wantWay(t, g, g[i].Name, strings.Repeat(string(onward), i), true)
		}
		wantStop(t, g, strings.Repeat(string(onward), 25), true)
		g[25].Next = "A"
		wantStop(t, g, "", false)
	}
}

func TestTraces(t *testing.T) {
	g := parsed(t, "A>B,B?CD,C>B,D.")
	many := strings.Repeat("BC", 29)
	for trace, want := range map[string]bool{
		"": true, "A": true, "AB": true, "ABC": true, "ABD": true, "ABCB": true, "ABCBC": true, "ABCBCBD": true, "A" + many + "B": true,
		"A" + many + "D": false, "AB" + strings.Repeat("CB", 28) + "D": true,
		"B": false, "C": false, "D": false, "BC": false, "AA": false, "ABA": false, "ABB": false, "ABDA": false, "ABDB": false, "ABDD": false,
		"AC": false, "AD": false, "AX": false, "E": false, "a": false, "Ab": false, "A.": false, " ": false, "A ": false, "A,B": false, "AB\x00": false, "\xff": false, "Ä": false,
		"A" + many + "BC": false, "A" + many + "BD": false, strings.Repeat("ABCB", 100000): false, "A" + strings.Repeat("BC", 100000): false,
	} {
		if got := impl.IsTrace(g, trace); got != want {
			t.Errorf("IsTrace(%.70q) = %v, want %v", trace, got, want)
		}
	}
	as := parsed(t, "A>A")
	branches := parsed(t, "A?AB,B.")
	for n := range 70 {
		trace := strings.Repeat("A", n)
		if got := impl.IsTrace(as, trace); got != (n <= 60) {
			t.Errorf("IsTrace(A>A) of %d = %v", n, got)
		}
		// No 20 choices tell the longer ones of these.
		if got := impl.IsTrace(branches, trace); got != (n <= 60) {
			t.Errorf("IsTrace(A?AB,B.) of %d = %v", n, got)
		}
		if got := impl.IsTrace(branches, trace+"B"); got != (n >= 1 && n < 60) {
			t.Errorf("IsTrace(A?AB,B.) of %d and B = %v", n, got)
		}
		if impl.IsTrace(branches, trace+"BA") || impl.IsTrace(branches, trace+"BB") {
			t.Errorf("IsTrace(A?AB,B.) of %d goes on behind B", n)
		}
	}
	// A block that is not reached is in no trace, though it is the first one of its own way.
	if h := parsed(t, "A.,B>A"); impl.IsTrace(h, "B") || impl.IsTrace(h, "BA") || !impl.IsTrace(h, "A") || !impl.IsTrace(h, "") {
		t.Error("IsTrace(A.,B>A)")
	}
}

func TestRunsOfNoGraph(t *testing.T) {
	for what, g := range badGraphs() {
		for _, choices := range []string{"", "l", "r", "x", strings.Repeat("l", 21)} {
			if trace, end, ok := impl.RunGraph(g, choices); trace != "" || end != 0 || ok {
				t.Errorf("%s: RunGraph(%q) = %q, %d, %v", what, choices, trace, end, ok)
			}
		}
		for _, trace := range []string{"", "A", "B", "AA", "AB"} {
			if impl.IsTrace(g, trace) {
				t.Errorf("%s: IsTrace(%q) = true", what, trace)
			}
		}
		for _, name := range []string{"", "A", "B", "AB"} {
			way, ok := impl.WayTo(g, name)
			wantText(t, what+": WayTo "+name, way, ok, "", false)
		}
		stop, ok := impl.StopsWith(g)
		wantText(t, what+": StopsWith", stop, ok, "", false)
		if impl.CanStop(g) {
			t.Errorf("%s: CanStop = true", what)
		}
	}
}

func TestWaysToNone(t *testing.T) {
	g := parsed(t, "A>B,B?CD,C>B,D.,E>D,F?GA,G>F")
	for _, name := range []string{"E", "F", "G", "H", "Z", "", "a", "AB", "CD", "A ", " A", ".", "\x00", "\xff", "Ä", "A\x00", strings.Repeat("A", 1000)} {
		wantWay(t, g, name, "", false)
	}
}

// plainRun is the run of a valid graph, written down from the definition.
func plainRun(g []impl.Block, choices string) (string, int) {
	next := map[string]string{}
	for _, b := range g {
		next[b.Name] = b.Next
	}
	trace, at := "", g[0].Name
	for {
		trace += at
		switch to := next[at]; {
		case to == "":
			return trace, impl.EndStop
		case len(to) == 2 && choices == "":
			return trace, impl.EndAsk
		case len(trace) == 60:
			return trace, impl.EndLong
		case len(to) == 1:
			at = to
		default:
			at = to[:1]
			if choices[0] == 'r' {
				at = to[1:]
			}
			choices = choices[1:]
		}
	}
}

// choicesUpTo returns all choices of at most n bytes: the shorter ones first, those of the same length in the order of bytes.
func choicesUpTo(n int) []string {
	all := []string{""}
	for i := 0; i < len(all); i++ {
		if len(all[i]) < n {
			all = append(all, all[i]+"l", all[i]+"r")
		}
	}
	return all
}

// checkRuns checks all functions of the chapter on a graph of at most three blocks against the plain definitions.
// No shortest way to one of three blocks has more than two choices, and a trace of four names has at most three.
func checkRuns(t *testing.T, g []impl.Block, traces []string) {
	t.Helper()
	ways, begun, stop, canStop := map[string]string{}, map[string]bool{}, "", false
	for _, choices := range choicesUpTo(5) {
		trace, end := plainRun(g, choices)
		wantRun(t, g, choices, trace, end)
		for i := range min(len(trace), 4) + 1 {
			begun[trace[:i]] = true
		}
		// Choices are tried in their order, so the first ones that come to a block are its way.
		for _, name := range strings.Split(trace, "") {
			if _, ok := ways[name]; !ok {
				ways[name] = choices
			}
		}
		if end == impl.EndStop && !canStop {
			stop, canStop = choices, true
		}
	}
	for _, name := range []string{"A", "B", "C", "Q"} {
		want, ok := ways[name]
		wantWay(t, g, name, want, ok)
	}
	wantStop(t, g, stop, canStop)
	for _, trace := range traces {
		if got := impl.IsTrace(g, trace); got != begun[trace] {
			t.Errorf("IsTrace(%q, %q) = %v", impl.FormatGraph(g), trace, got)
		}
	}
}

func TestRunsOfAllSmallGraphs(t *testing.T) {
	for _, names := range []string{"Q", "BA", "CAB"} {
		traces := []string{""}
		for i := 0; i < len(traces); i++ {
			if len(traces[i]) < 4 {
				for _, name := range strings.Split(names, "") {
					traces = append(traces, traces[i]+name)
				}
			}
		}
		allGraphs(names, func(g []impl.Block) { checkRuns(t, g, traces) })
	}
}

// earlier reports whether choices are shorter than others, or of the same length and ahead of them in the order of bytes.
func earlier(a, b string) bool {
	return len(a) < len(b) || len(a) == len(b) && a < b
}

// plainWays returns the ways to all blocks that are reached without coming by the avoided one, found by making ways better until nothing changes.
// An empty name avoids none.
func plainWays(g []impl.Block, avoided string) map[string]string {
	ways := map[string]string{}
	if g[0].Name != avoided {
		ways[g[0].Name] = ""
	}
	for changed := true; changed; {
		changed = false
		for _, b := range g {
			from, ok := ways[b.Name]
			if !ok {
				continue
			}
			for i, to := range strings.Split(b.Next, "") {
				choices := from
				if len(b.Next) == 2 {
					choices += "lr"[i : i+1]
				}
				if old, ok := ways[to]; to != avoided && (!ok || earlier(choices, old)) {
					ways[to], changed = choices, true
				}
			}
		}
	}
	return ways
}

// someGraph returns a graph of n blocks that a source of numbers tells; of ten blocks, about one stops and share jump.
func someGraph(source *rand.Rand, n int, share int) []impl.Block {
	g := make([]impl.Block, n)
	for i, k := range source.Perm(26)[:n] {
		g[i].Name = alphabet[k : k+1]
	}
	for i := range g {
		two := source.Perm(n)
		switch kind := source.Intn(10); {
		case kind == 0:
		case kind <= share || n == 1:
			g[i].Next = g[two[0]].Name
		default:
			g[i].Next = g[two[0]].Name + g[two[1]].Name
		}
	}
	return g
}

func TestRunsOfLargerGraphs(t *testing.T) {
	source := rand.New(rand.NewSource(2))
	for range 3000 {
		g := someGraph(source, 1+source.Intn(26), 1+source.Intn(8))
		ways, stop, canStop := plainWays(g, ""), "", false
		for _, b := range g {
			want, ok := ways[b.Name]
			wantWay(t, g, b.Name, want, ok)
			if ok && b.Next == "" && (!canStop || earlier(want, stop)) {
				stop, canStop = want, true
			}
		}
		wantStop(t, g, stop, canStop)
		choices := ""
		for range source.Intn(21) {
			choices += string("lr"[source.Intn(2)])
		}
		trace, end := plainRun(g, choices)
		wantRun(t, g, choices, trace, end)
		if !impl.IsTrace(g, trace) {
			t.Errorf("IsTrace(%q, %q) = false", impl.FormatGraph(g), trace)
		}
		next, _ := impl.NextOf(g, trace[len(trace)-1:])
		for _, b := range g {
			want := len(trace) < 60 && strings.Contains(next, b.Name)
			if got := impl.IsTrace(g, trace+b.Name); got != want {
				t.Errorf("IsTrace(%q, %q) = %v", impl.FormatGraph(g), trace+b.Name, got)
			}
		}
	}
}

func TestRunsLeaveGraphsAlone(t *testing.T) {
	whole := append(parsed(t, "A>B,B?CD,C>B,D.,E>D"), impl.Block{Name: "X", Next: "Y"})
	before := slices.Clone(whole)
	g := whole[:5]
	impl.RunGraph(g, "lr")
	impl.StopsWith(g)
	impl.CanStop(g)
	impl.WayTo(g, "D")
	impl.IsTrace(g, "ABD")
	if !slices.Equal(whole, before) {
		t.Errorf("runs change their graph: %v", whole)
	}
	// No state between calls: what was left over is not used later.
	for range 2 {
		wantRun(t, g, "rlll", "ABD", impl.EndStop)
		wantRun(t, g, "", "AB", impl.EndAsk)
		wantWay(t, g, "D", "r", true)
	}
}
