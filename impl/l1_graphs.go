package impl

import (
	"iter"
	"slices"
	"strings"
)

// MaxBlocks limits graphs.
const MaxBlocks = 26

// A Block has a name, and tells where it goes on: nowhere, to one block, or to one of two.
type Block struct {
	Name string
	Next string
}

// A node is a block of a valid graph that points to where it goes on.
// Its index is its place in the order of the graph.
type node struct {
	index int
	name  string
	end   ending
}

// An ending tells how a block ends: it stops, jumps or branches.
type ending interface {
	targets() []*node
}

type stopping struct{}

type jumping struct {
	to *node
}

type branching struct {
	first  *node
	second *node
}

func (stopping) targets() []*node {
	return nil
}

func (j jumping) targets() []*node {
	return []*node{j.to}
}

func (b branching) targets() []*node {
	return []*node{b.first, b.second}
}

// markOf returns what stands between the name and Next of a block in the text of a graph.
func markOf(end ending) string {
	switch end.(type) {
	case jumping:
		return ">"
	case branching:
		return "?"
	default:
		return "."
	}
}

// GraphValid reports whether blocks are a graph.
func GraphValid(g []Block) bool {
	if len(g) == 0 || len(g) > MaxBlocks {
		return false
	}
	names := ""
	for _, b := range g {
		if !isName(b.Name) || strings.Contains(names, b.Name) {
			return false
		}
		names += b.Name
	}
	for _, b := range g {
		if !nextValid(b.Next, names) {
			return false
		}
	}
	return true
}

// isName reports whether a text can be the name of a block.
func isName(name string) bool {
	return len(name) == 1 && name[0] >= 'A' && name[0] <= 'Z'
}

// nextValid reports whether a block of a graph with these names can go on like this.
func nextValid(next string, names string) bool {
	if len(next) > 2 || len(next) == 2 && next[0] == next[1] {
		return false
	}
	for i := range len(next) {
		if strings.IndexByte(names, next[i]) < 0 {
			return false
		}
	}
	return true
}

// nodesOf returns the nodes of a graph in its order, and whether the graph is valid.
func nodesOf(g []Block) ([]*node, bool) {
	if !GraphValid(g) {
		return nil, false
	}
	nodes := make([]*node, len(g))
	for i, b := range g {
		nodes[i] = &node{index: i, name: b.Name}
	}
	// Endings come second because a block may go on to a later one.
	for i, b := range g {
		nodes[i].end = endingOf(nodes, b.Next)
	}
	return nodes, true
}

// endingOf returns the ending of a block with a valid Next.
func endingOf(nodes []*node, next string) ending {
	switch len(next) {
	case 1:
		return jumping{nodeNamed(nodes, next)}
	case 2:
		return branching{nodeNamed(nodes, next[:1]), nodeNamed(nodes, next[1:])}
	default:
		return stopping{}
	}
}

// nodeNamed returns the node with a name, or nil if there is none.
func nodeNamed(nodes []*node, name string) *node {
	for _, n := range nodes {
		if n.name == name {
			return n
		}
	}
	return nil
}

// joinNames returns the names of nodes, one behind the other.
func joinNames(nodes []*node) string {
	var text strings.Builder
	for _, n := range nodes {
		text.WriteString(n.name)
	}
	return text.String()
}

// FormatGraph returns the text of a graph.
func FormatGraph(g []Block) string {
	nodes, ok := nodesOf(g)
	if !ok {
		return ""
	}
	parts := make([]string, len(nodes))
	for i, n := range nodes {
		parts[i] = n.name + markOf(n.end) + joinNames(n.end.targets())
	}
	return strings.Join(parts, ",")
}

// ParseGraph parses the text of a graph.
func ParseGraph(text string) ([]Block, bool) {
	var g []Block
	for _, part := range strings.Split(text, ",") {
		if len(part) < 2 {
			return nil, false
		}
		g = append(g, Block{Name: part[:1], Next: part[2:]})
	}
	// Writing the graph again checks the mark behind each name as well.
	if FormatGraph(g) != text {
		return nil, false
	}
	return g, true
}

// NamesOf returns the names of all blocks.
func NamesOf(g []Block) (string, bool) {
	nodes, ok := nodesOf(g)
	return joinNames(nodes), ok
}

// NextOf returns where a block goes on.
func NextOf(g []Block, name string) (string, bool) {
	nodes, _ := nodesOf(g)
	n := nodeNamed(nodes, name)
	if n == nil {
		return "", false
	}
	return joinNames(n.end.targets()), true
}

// PrevOf returns which blocks go on to one.
func PrevOf(g []Block, name string) (string, bool) {
	nodes, _ := nodesOf(g)
	n := nodeNamed(nodes, name)
	if n == nil {
		return "", false
	}
	var prev []*node
	for _, other := range nodes {
		if slices.Contains(other.end.targets(), n) {
			prev = append(prev, other)
		}
	}
	return joinNames(prev), true
}

// spreadFrom yields some nodes and all others that follow from these, from those, and so on, each once, in the order in which they are found.
func spreadFrom(starts []*node, following func(*node) []*node) iter.Seq[*node] {
	return func(yield func(*node) bool) {
		var seen [MaxBlocks]bool
		var queue []*node
		join := func(nodes []*node) {
			for _, n := range nodes {
				if !seen[n.index] {
					seen[n.index] = true
					queue = append(queue, n)
				}
			}
		}
		join(starts)
		for len(queue) > 0 {
			n := queue[0]
			queue = queue[1:]
			if !yield(n) {
				return
			}
			join(following(n))
		}
	}
}

// reachedFrom yields the nodes that can be come to from one, each once, the nearer ones first.
func reachedFrom(entry *node) iter.Seq[*node] {
	return spreadFrom([]*node{entry}, func(n *node) []*node { return n.end.targets() })
}

// inOrder returns the nodes of a sequence in the order of the graph.
func inOrder(nodes iter.Seq[*node]) []*node {
	return slices.SortedFunc(nodes, func(a, b *node) int { return a.index - b.index })
}

// reachedNodes returns the nodes that can be come to, in the order of the graph, and whether the graph is valid.
func reachedNodes(g []Block) ([]*node, bool) {
	nodes, ok := nodesOf(g)
	if !ok {
		return nil, false
	}
	return inOrder(reachedFrom(nodes[0])), true
}

// ReachedOf returns the blocks that can be come to.
func ReachedOf(g []Block) (string, bool) {
	nodes, ok := reachedNodes(g)
	return joinNames(nodes), ok
}

// PruneGraph returns the graph of these.
func PruneGraph(g []Block) ([]Block, bool) {
	nodes, ok := reachedNodes(g)
	if !ok {
		return nil, false
	}
	pruned := make([]Block, len(nodes))
	for i, n := range nodes {
		pruned[i] = g[n.index]
	}
	return pruned, true
}

// CountJumps returns how many pairs of blocks there are of which one can go on to the other one.
func CountJumps(g []Block) int {
	nodes, ok := nodesOf(g)
	if !ok {
		return -1
	}
	count := 0
	for _, n := range nodes {
		count += len(n.end.targets())
	}
	return count
}
