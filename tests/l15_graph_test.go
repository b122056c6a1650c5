package tests

import (
	"fmt"
	"math/rand/v2"
	"slices"
	"strconv"
	"strings"
	"testing"

	"loop.example/g00666/impl"
)

const (
	mostNodes = 3000 // MaxNodes of the document
	mostTag   = 120  // and 2 MaxName
)

// numbersOf reads numbers with commas between.
func numbersOf(s string) []int {
	var l []int
	for _, word := range strings.FieldsFunc(s, func(r rune) bool { return r == ',' }) {
		n, err := strconv.Atoi(word)
		if err != nil {
			panic(s)
		}
		l = append(l, n)
	}
	return l
}

// drawn reads a graph: its nodes with blanks between, and behind a / its roots. A node is q, m or v, ahead of it perhaps
// a tag and a !, and behind it its kids, or a = and its text.
func drawn(s string) impl.Graph {
	var g impl.Graph
	nodes, roots, _ := strings.Cut(s, "/")
	for _, word := range strings.Fields(nodes) {
		var n impl.Node
		if tag, rest, ok := strings.Cut(word, "!"); ok {
			n.Tag, word = tag, rest
		}
		word, n.Text, _ = strings.Cut(word, "=")
		n.Kind = map[byte]int{'q': 3, 'm': 4, 'v': 5}[word[0]]
		n.Kids = numbersOf(word[1:])
		g.Nodes = append(g.Nodes, n)
	}
	g.Roots = numbersOf(roots)
	return g
}

// briefGraph tells a graph so that it can be read in a message, and so that two that differ are told differently.
func briefGraph(g impl.Graph) string {
	out := ""
	for i, n := range g.Nodes {
		if i == 20 {
			out += fmt.Sprintf(".. of %d nodes ", len(g.Nodes))
			break
		}
		out += fmt.Sprintf("%d", n.Kind)
		if n.Tag != "" {
			out += fmt.Sprintf("<%.60q>", n.Tag)
		}
		if n.Text != "" {
			out += fmt.Sprintf("=%.60q", n.Text)
		}
		if len(n.Kids) > 0 {
			out += fmt.Sprint(n.Kids[:min(len(n.Kids), 20)])
		}
		out += " "
	}
	return out + fmt.Sprint("/", g.Roots[:min(len(g.Roots), 20)])
}

// alikeNodes holds all fields against each other; a list that is nil is one without elements.
func alikeNodes(a, b impl.Node) bool {
	return a.Kind == b.Kind && a.Tag == b.Tag && a.Text == b.Text && slices.Equal(a.Kids, b.Kids)
}

func alikeGraphs(a, b impl.Graph) bool {
	return slices.Equal(a.Roots, b.Roots) && slices.EqualFunc(a.Nodes, b.Nodes, alikeNodes)
}

func cloneGraph(g impl.Graph) impl.Graph {
	g.Nodes, g.Roots = slices.Clone(g.Nodes), slices.Clone(g.Roots)
	for i := range g.Nodes {
		g.Nodes[i].Kids = slices.Clone(g.Nodes[i].Kids)
	}
	return g
}

// standsOf counts how often each node stands in all Kids and Roots together.
func standsOf(g impl.Graph) []int {
	times := make([]int, len(g.Nodes))
	for _, root := range g.Roots {
		times[root]++
	}
	for _, n := range g.Nodes {
		for _, kid := range n.Kids {
			times[kid]++
		}
	}
	return times
}

// nodesByRule asks of a graph what shows without going through it.
func nodesByRule(g impl.Graph) bool {
	there := func(l []int) bool {
		return len(l) == 0 || slices.Min(l) >= 0 && slices.Max(l) < len(g.Nodes)
	}
	for _, n := range g.Nodes {
		pairs, bare := len(n.Kids)%2 == 0, n.Text == ""
		right := map[int]bool{3: bare, 4: bare && pairs, 5: len(n.Kids) == 0}
		if !right[n.Kind] || len(n.Tag) > mostTag || !there(n.Kids) {
			return false
		}
	}
	return len(g.Nodes) <= mostNodes && there(g.Roots)
}

// orderByRule tells the nodes as they are met. What is still to be met lies on a pile.
func orderByRule(g impl.Graph) []int {
	var order []int
	pile := slices.Clone(g.Roots)
	slices.Reverse(pile)
	for len(pile) > 0 {
		i := pile[len(pile)-1]
		pile = pile[:len(pile)-1]
		if slices.Contains(order, i) {
			continue
		}
		order = append(order, i)
		for _, kid := range slices.Backward(g.Nodes[i].Kids) {
			pile = append(pile, kid)
		}
	}
	return order
}

// withinByRule tells for each node which ones are met through it, by adding what is met through its kids until nothing comes any more.
func withinByRule(g impl.Graph) []map[int]bool {
	within := make([]map[int]bool, len(g.Nodes))
	for i := range within {
		within[i] = map[int]bool{}
	}
	for grown := true; grown; {
		grown = false
		for i, n := range g.Nodes {
			was := len(within[i])
			for _, kid := range n.Kids {
				within[i][kid] = true
				for far := range within[kid] {
					within[i][far] = true
				}
			}
			grown = grown || len(within[i]) > was
		}
	}
	return within
}

// graphByRule is the second telling of GraphOk, for graphs that aren't great.
func graphByRule(g impl.Graph) bool {
	if !nodesByRule(g) {
		return false
	}
	for place, i := range append(orderByRule(g), len(g.Nodes)) {
		if place != i {
			return false
		}
	}
	within := withinByRule(g)
	from := make([]int, len(g.Nodes))
	for _, root := range g.Roots {
		from[root]++
		for i := range within[root] {
			from[i]++
		}
	}
	for i := range g.Nodes {
		// A root that is within itself is counted twice too.
		if within[i][i] || from[i] != 1 {
			return false
		}
	}
	return true
}

func sharedByRule(g impl.Graph) []int {
	var l []int
	for i, times := range standsOf(g) {
		if times > 1 {
			l = append(l, i)
		}
	}
	return l
}

// eventsByRule tells the events of a right graph, the nodes that are still to be told lying on a pile, -1 among them for an end.
func eventsByRule(g impl.Graph) []impl.Event {
	l := []impl.Event{{Kind: 1}}
	stands, next := standsOf(g), 0
	for _, root := range g.Roots {
		l = append(l, impl.Event{Kind: 2, Flag: true})
		for pile := []int{root}; len(pile) > 0; {
			i := pile[len(pile)-1]
			pile = pile[:len(pile)-1]
			if i < 0 {
				l = append(l, impl.Event{Kind: 7})
				continue
			}
			name := fmt.Sprintf("n%d", i)
			// In a right graph those ahead of the next one were all told.
			if i < next {
				l = append(l, impl.Event{Kind: 6, Text: name})
				continue
			}
			next = i + 1
			n := g.Nodes[i]
			e := impl.Event{Kind: n.Kind, Style: map[int]int{3: 6, 4: 6, 5: 3}[n.Kind], Text: n.Text, Tag: n.Tag}
			if stands[i] > 1 {
				e.Anchor = name
			}
			l = append(l, e)
			if n.Kind != 5 {
				pile = append(pile, -1)
			}
			for _, kid := range slices.Backward(n.Kids) {
				pile = append(pile, kid)
			}
		}
		l = append(l, impl.Event{Kind: 8})
	}
	return append(l, impl.Event{Kind: 9})
}

// composeByRule tells the graph of events of which it is known whether they are nested, by what the second telling of nodes tells.
func composeByRule(l []impl.Event, nested bool) (impl.Graph, bool) {
	a := nestByRule(l, nested)
	if !a.whole {
		return impl.Graph{}, false
	}
	var g impl.Graph
	nums, count := make([]int, len(l)), 0
	for i, e := range l {
		switch {
		case e.Kind == 6:
			nums[i] = nums[a.defs[i]]
		case isNode(e):
			nums[i] = count
			count++
		}
	}
	numbers := func(places []int) []int {
		var out []int
		for _, i := range places {
			out = append(out, nums[i])
		}
		return out
	}
	for i, e := range l {
		if isNode(e) && e.Kind != 6 {
			g.Nodes = append(g.Nodes, impl.Node{Kind: e.Kind, Tag: e.Tag, Text: e.Text, Kids: numbers(a.kids[i])})
		}
	}
	g.Roots = numbers(a.roots)
	return g, count <= mostNodes
}

// checkWrong asks all functions of a graph that isn't right.
func checkWrong(t *testing.T, g impl.Graph) {
	t.Helper()
	if impl.GraphOk(g) {
		t.Errorf("GraphOk(%s) is true", briefGraph(g))
	}
	if shared, l := impl.Shared(g), impl.Decompose(g); len(shared) > 0 || len(l) > 0 {
		t.Errorf("of %s, which isn't right, Shared is %v, and Decompose has %d events", briefGraph(g), shared, len(l))
	}
	if right := drawn("v/0"); impl.SameGraph(g, g) || impl.SameGraph(g, right) || impl.SameGraph(right, g) || impl.SameGraph(g, impl.Graph{}) || impl.SameGraph(impl.Graph{}, g) {
		t.Errorf("%s, which isn't right, is the same as a graph", briefGraph(g))
	}
}

// checkRight asks of a graph that is right what P4 and the chapter say of it, and tells its events.
func checkRight(t *testing.T, g impl.Graph) []impl.Event {
	t.Helper()
	if !impl.GraphOk(g) {
		t.Errorf("GraphOk(%s) is false", briefGraph(g))
		return nil
	}
	if got, want := impl.Shared(g), sharedByRule(g); !slices.Equal(got, want) {
		t.Errorf("Shared(%s) is %v, not %v", briefGraph(g), got, want)
	}
	l := impl.Decompose(g)
	if want := eventsByRule(g); !slices.Equal(l, want) {
		t.Errorf("Decompose(%s) is\n\t%s, not\n\t%s", briefGraph(g), briefStream(l), briefStream(want))
	}
	aliases, again := 0, -len(g.Nodes)
	for _, e := range l {
		if e.Kind == impl.EvAlias {
			aliases++
		}
	}
	for _, times := range standsOf(g) {
		again += times
	}
	if !impl.Whole(l) || aliases != again {
		t.Errorf("what is told of %s has %d aliases, not %d, and Whole is %v of it", briefGraph(g), aliases, again, impl.Whole(l))
	}
	if back, ok := impl.Compose(l); !ok || !alikeGraphs(back, g) || !impl.SameGraph(back, g) || !impl.SameGraph(g, back) {
		t.Errorf("%s is composed of its events as %s, %v", briefGraph(g), briefGraph(back), ok)
	}
	if !impl.SameGraph(g, g) {
		t.Errorf("%s isn't the same as itself", briefGraph(g))
	}
	return l
}

// checkGraph holds all that is told of a graph against the second telling; it tells whether the graph is right.
func checkGraph(t *testing.T, g impl.Graph) bool {
	t.Helper()
	if graphByRule(g) {
		checkRight(t, g)
		return true
	}
	checkWrong(t, g)
	return false
}

func checkRights(t *testing.T, l ...string) {
	t.Helper()
	for _, s := range l {
		if checkRight(t, drawn(s)); !graphByRule(drawn(s)) {
			t.Errorf("the rule tells false of %q", s)
		}
	}
}

func checkWrongs(t *testing.T, l ...string) {
	t.Helper()
	for _, s := range l {
		if checkWrong(t, drawn(s)); graphByRule(drawn(s)) {
			t.Errorf("the rule tells true of %q", s)
		}
	}
}

func TestGraphConstants(t *testing.T) {
	if impl.MaxNodes != mostNodes {
		t.Errorf("MaxNodes %d", impl.MaxNodes)
	}
}

// P9: graphs that are right, and what they are composed of.
func TestGraphOkRight(t *testing.T) {
	checkRights(t,
		// No root, one of each kind, several.
		"/", "v/0", "v=a/0", "t!v=a/0", "q/0", "m/0", "t!q/0", "t!m/0", "v v/0,1", "q v m/0,1,2", "v=a v=a v=a v=a/0,1,2,3", "q1 v v/0,2", "v q2 v/0,1", "m1,2 v v q4 v/0,3",
		// Collections in one another.
		"q1 v/0", "q1,2,3 v v v/0", "m1,2 v v/0", "m1,2,3,4 v v v v/0", "q1 q2 q3 q/0", "q1,2 q q/0", "q1,3 q2 v v/0", "m1,2 q m/0", "m1,3 q2 v m4,5 v v/0", "m1,4 m2,3 v v v/0", "q1 m2,3 v q4 v/0", "q1 q2 q3,5 q4 v q6,7 v v/0",
		// A node that is met more than once: in one list, in two, within what is met first, as a key, as a value.
		"q1,1 v/0", "q1,1,1 v/0", "m1,1 v/0", "q1,2,1 v v/0", "q1,2,2,1 v v/0", "q1,2 v q1/0", "q1,1 q/0", "q1,1 q2 v/0", "q1,1 q2,2 v/0", "q1,2 q2 v/0", "q1,2,3 q2 v q2,1/0", "m1,2,3,1 v v v/0", "m1,2,2,1 v v/0", "q1,3 m2,2 v m2,1/0", "q1,2,3,4 v q1 q2 q3/0", "q1,2 q2 q3 v/0", "q1,2,3 q2 q3 v/0",
		// The same in more than one document.
		"q1,1 v q3,3 v/0,2", "v q2,2 v v/0,1,3", "q1,2,1 v v q4,5,4 v v/0,3",
	)
}

// P9: nodes and roots that don't go together.
func TestGraphOkRootsAndNodes(t *testing.T) {
	checkWrongs(t,
		// Nodes and no root, a root and no nodes.
		"v/", "q/", "m/", "v v/", "q1 v/", "q0/", "/0", "/-1", "/0,0", "/1",
		// A node that isn't met: the first, one between, the last.
		"v v/1", "v v/0", "v v v/0,2", "v v v/0,1", "q1 v v/0", "q2 v v/0", "q1,3 v v v/0", "v q2 v/1", "q v/0", "q1 v q3 v/0", "q q2 v/0",
		// Not met, and within itself.
		"v q1/0", "v q2 q1/0", "q1 v q2/0",
		// Another order than that in which they are met.
		"v v/1,0", "v v v/0,2,1", "v v v/1,0,2", "q2,1 v v/0", "q1 v/1", "v q0/1", "v v q0,1/2", "m2,1 v v/0", "q1,2 v v v/3,0", "q1,3 v v q2/0", "q1,2 q3 v v/0", "q2,1 q v/0", "q1,3 q v q2/0", "q1,3,2 v v v/0", "q2,2,1,1 v v/0", "q1,2 v q4,3 v v/0", "q3 q2 v q1/0", "q1 q3 v q2/0", "q2 v v/0,1", "v q3 v v/0,1,2",
		// A root twice, from the first one on and behind another.
		"v/0,0", "q/0,0", "m/0,0", "q1 v/0,0", "v v/0,1,1", "v v/0,1,0", "v v/0,0,1", "v v v/0,1,2,0", "q1 v/0,0,0",
		// A root that is a kid of an earlier one, or of a later one; it at once and through others.
		"q1 v/0,1", "q1 q2 v/0,1", "q1 q2 v/0,2", "m1,2 v v/0,2", "m1,2 v v/0,1", "v q0/0,1", "v q2,0 v/0,1", "q1 v q3,0 v/0,2", "q1 q/0,1", "q1,2 v v/0,1,2", "q1 v q3 v/0,2,3", "q1 v q3 v/0,2,1",
		// A node that is met from two roots: of one it is a kid, of both, of members.
		"q1 v q1/0,2", "q1 v q3,1 v/0,2", "q1,2 v v q2/0,3", "q1 q2 v q1/0,3", "q1 q2 v q4 q2/0,3", "m1,2 v v m1,2/0,3", "v q2 v q2/0,1,3", "q1 v v q1/0,2,3", "q1,1 v q1/0,2",
	)
}

// P9: nodes within themselves.
func TestGraphOkWithinItself(t *testing.T) {
	checkWrongs(t,
		// At once: alone, first, last, twice, below another, as a key, as a value.
		"q0/0", "q0,1 v/0", "q1,0 v/0", "q1,0,2 v v/0", "q0,0/0", "q1 q1/0", "q1 q1,2 v/0", "q1 q2,1 v/0", "m0,1 v/0", "m1,0 v/0", "m0,0/0", "m1,2 v m2,3 v/0", "v q1/0,1", "q1 v q2/0,2",
		// Through others.
		"q1 q0/0", "q1 q2 q0/0", "q1 q2 q1/0", "q1 q2 q3 q0/0", "q1 q2 q3 q1/0", "q1 q2 q3 q2/0", "q1,2 v q0/0", "q1,2 v q1,0/0", "q1,2 q0 v/0", "q1 q2,0 v/0", "q1 m2,0 v/0", "q1 m0,2 v/0", "m1,2 v m3,0 v/0", "q1 q2,3 v q1/0", "q1,3 q2 v q4 q0/0", "q1 v q3 q2/0,2", "v q2 q3 q1/0,1",
		// Twice in a list, once within itself.
		"q1,1 q0/0", "q1,1 q1/0", "q1,2,1 v q2/0",
	)
	// The same without the way back.
	checkRights(t, "q1 q2 q3 v/0", "q1 q2 q3 q/0", "q1,2 v q1/0", "q1,2 q2 v/0", "q1,1 q2 v/0", "q1 q2,3 v q2/0")
}

// P9: each kind that a node may have, and each other one.
func TestGraphOkKinds(t *testing.T) {
	kinds := []int{lowest, lowest + 1, -1 << 32, -5, -4, -3, -1, 0, 1, 2, 3, 4, 5, 6, 7, 8, 9, 10, 11, 12, 255, 256, 259, 1 << 32, 1<<32 + 3, 1<<32 + 5, 1<<62 + 4, highest - 1, highest}
	for _, kind := range kinds {
		known := kind == impl.EvSeq || kind == impl.EvMap || kind == impl.EvText
		for _, s := range []string{"v/0", "v v/0,1", "v v/0,1"} {
			g := drawn(s)
			g.Nodes[len(g.Nodes)-1].Kind = kind
			if checkGraph(t, g) != known {
				t.Errorf("with the kind %d it is right: %v", kind, !known)
			}
		}
		g := drawn("q1,2,3,4 v v v v/0")
		for i := range g.Nodes {
			other := cloneGraph(g)
			other.Nodes[i].Kind = kind
			if checkGraph(t, other) != (known && (i > 0 || kind != impl.EvText)) {
				t.Errorf("with the kind %d at place %d it is right: %v", kind, i, !known)
			}
		}
	}
}

// P9: how many kids a node may have, and which may have a text.
func TestGraphOkKidsAndTexts(t *testing.T) {
	checkWrongs(t,
		// A map with half a pair.
		"m1 v/0", "m1,1,1 v/0", "m1,2,3 v v v/0", "m1,2,3,4,5 v v v v v/0", "q1 m2 v/0", "v m2 v/0,1", "m1,2 v m3 v/0", "m1,2 v m3,3,3 v/0",
		// A scalar with kids.
		"v1 v/0", "v0/0", "v1,2 v v/0", "v1,1 v/0", "q1 v2 v/0", "v v2 v/0,1", "v1 q/0", "v=a v2 v/0,1", "m1,2 v v3 v/0",
		// A collection with a text, also with kids, and not the first one.
		"q=a/0", "m=a/0", "v=a q=b/0,1", "v=a m=b/0,1", "q1 q=a/0", "q1 m=a/0",
	)
	checkRights(t, "m1,2 v v/0", "m1,1,1,1 v/0", "q1,1,1 v/0", "q1,2,3,4,5 v v v v v/0", "v=a/0")
	texts := []string{"a", " ", "\n", "\x00", "\xff", "é", "0", "null", "q", strings.Repeat("a", 70000)}
	for _, text := range texts {
		for _, s := range []string{"q/0", "m/0", "q1 v/0", "m1,2 v v/0", "t!q/0"} {
			g := drawn(s)
			g.Nodes[0].Text = text
			checkWrong(t, g)
		}
		g := drawn("q1,2,1 v v/0")
		g.Nodes[1].Text, g.Nodes[2].Text = text, text+text
		checkRight(t, g)
		g.Nodes = append(g.Nodes, impl.Node{Kind: impl.EvMap, Text: text})
		g.Roots = append(g.Roots, 3)
		checkWrong(t, g)
	}
	// A text with kids, both of them wrong, and the one without the other.
	g := drawn("v1 v/0")
	g.Nodes[0].Text = "a"
	checkWrong(t, g)
	g.Nodes[0].Kids, g.Roots = nil, []int{0, 1}
	checkRight(t, g)
}

// P9: tags may be as long as those of events, and have any bytes.
func TestGraphOkTags(t *testing.T) {
	sizes := map[int]bool{0: true, 1: true, 60: true, 61: true, mostTag - 1: true, mostTag: true, mostTag + 1: false, mostTag + 2: false, 240: false, 256: false, 256 + mostTag: false, 70000: false}
	for size, want := range sizes {
		for _, s := range []string{"v/0", "q/0", "m/0", "q1,1 v/0", "m1,2 v v/0", "v=a q2 v/0,1"} {
			for i := range drawn(s).Nodes {
				for _, sign := range []string{"t", "!", "\xff", "\n"} {
					g := drawn(s)
					g.Nodes[i].Tag = strings.Repeat(sign, size)
					if checkGraph(t, g) != want {
						t.Errorf("with a tag of %d bytes at place %d %q is right: %v", size, i, s, !want)
					}
				}
			}
		}
	}
	// Bytes are counted, not runes.
	for tag, want := range map[string]bool{strings.Repeat("é", 60): true, strings.Repeat("é", 61): false, strings.Repeat("é", 60) + "a": false, strings.Repeat("日", 40): true, strings.Repeat("日", 41): false} {
		g := drawn("v=a/0")
		g.Nodes[0].Tag = tag
		if checkGraph(t, g) != want {
			t.Errorf("with the tag %q it is right: %v", tag, !want)
		}
	}
}

// P9: kids and roots that are no places.
func TestGraphOkPlaces(t *testing.T) {
	for _, s := range []string{"/0", "v/0", "q/0", "v v/0,1", "q1,2 v v/0", "m1,2,3,4 v v v v/0", "q1 q2 v/0", "v q2,2 v/0,1"} {
		n := len(drawn(s).Nodes)
		for _, wrong := range wrongPlaces(n) {
			for i := range drawn(s).Nodes {
				for k := range drawn(s).Nodes[i].Kids {
					g := drawn(s)
					g.Nodes[i].Kids[k] = wrong
					checkWrong(t, g)
				}
				for _, add := range [][]int{{wrong}, {wrong, wrong}, {0, wrong}, {wrong, 0}} {
					g := drawn(s)
					g.Nodes[i].Kids = append(g.Nodes[i].Kids, add...)
					checkWrong(t, g)
				}
			}
			for k := range drawn(s).Roots {
				g := drawn(s)
				g.Roots[k] = wrong
				checkWrong(t, g)
			}
			g := drawn(s)
			g.Roots = append(g.Roots, wrong)
			checkWrong(t, g)
			g.Roots = slices.Insert(drawn(s).Roots, 0, wrong)
			checkWrong(t, g)
			g.Roots = []int{wrong}
			checkWrong(t, g)
		}
	}
}

// chainOf has collections in one another: each in the one ahead of it, so often.
func chainOf(n, kind, often int) impl.Graph {
	g := impl.Graph{Roots: []int{0}}
	for i := range n {
		node := impl.Node{Kind: kind}
		if i < n-1 {
			node.Kids = slices.Repeat([]int{i + 1}, often)
		}
		g.Nodes = append(g.Nodes, node)
	}
	return g
}

// flatOf has a list with all the others in it.
func flatOf(n int) impl.Graph {
	g := impl.Graph{Nodes: make([]impl.Node, n), Roots: []int{0}}
	for i := range g.Nodes {
		g.Nodes[i].Kind = impl.EvText
	}
	g.Nodes[0].Kind = impl.EvSeq
	for i := 1; i < n; i++ {
		g.Nodes[0].Kids = append(g.Nodes[0].Kids, i)
	}
	return g
}

// rowOf has a document for each node.
func rowOf(n int) impl.Graph {
	g := flatOf(n)
	g.Roots = append(g.Roots, g.Nodes[0].Kids...)
	g.Nodes[0] = impl.Node{Kind: impl.EvText}
	return g
}

// P4, P9: as many nodes as there may be, and one more; also as deep as that lets.
func TestGraphOkManyNodes(t *testing.T) {
	for _, n := range []int{1, 2, 40, 41, 42, mostNodes - 1, mostNodes} {
		for _, g := range []impl.Graph{flatOf(n), rowOf(n), chainOf(n, impl.EvSeq, 1), chainOf(n, impl.EvSeq, 2), chainOf(n, impl.EvSeq, 3), chainOf(n, impl.EvMap, 2), chainOf(n, impl.EvMap, 4)} {
			checkRight(t, g)
		}
	}
	for _, n := range []int{mostNodes + 1, mostNodes + 2, 2 * mostNodes, 1 << 17} {
		for _, g := range []impl.Graph{flatOf(n), rowOf(n), chainOf(n, impl.EvSeq, 1), chainOf(n, impl.EvMap, 2)} {
			checkWrong(t, g)
		}
	}
	// Within itself as deep as it can be.
	for _, n := range []int{2, mostNodes} {
		for _, back := range []int{0, n / 2, n - 1} {
			g := chainOf(n, impl.EvSeq, 1)
			g.Nodes[n-1].Kids = []int{back}
			checkWrong(t, g)
		}
		g := chainOf(n, impl.EvSeq, 1)
		g.Roots = append(g.Roots, n-1)
		checkWrong(t, g)
	}
	// The last one isn't met, and it is met from two roots.
	g := flatOf(mostNodes)
	g.Nodes[0].Kids = g.Nodes[0].Kids[:mostNodes-2]
	checkWrong(t, g)
	g.Roots = []int{0, mostNodes - 1}
	checkRight(t, g)
	g.Roots = []int{0, mostNodes - 1, mostNodes - 1}
	checkWrong(t, g)
}

// P9: by the rule, all graphs of a few nodes.
func TestGraphsOfFewNodes(t *testing.T) {
	right := map[int]int{}
	check := func(g impl.Graph) {
		if checkGraph(t, g) {
			right[len(g.Nodes)]++
		}
	}
	lists := func(places []int, most int) [][]int {
		var l [][]int
		eachList(places, most, func(list []int) { l = append(l, list) })
		return l
	}
	nodes := func(kids [][]int) []impl.Node {
		var l []impl.Node
		for _, kind := range []int{impl.EvSeq, impl.EvMap, impl.EvText} {
			for _, list := range kids {
				if kind != impl.EvText || len(list) < 2 {
					l = append(l, impl.Node{Kind: kind, Kids: list})
				}
			}
		}
		return l
	}
	grow := func(n int, kids, roots [][]int) {
		eachList(nodes(kids), n, func(l []impl.Node) {
			if len(l) < n {
				return
			}
			for _, list := range roots {
				check(impl.Graph{Nodes: l, Roots: list})
			}
		})
	}
	grow(0, nil, lists([]int{-1, 0, 1}, 2))
	grow(1, lists([]int{-1, 0, 1}, 3), lists([]int{-1, 0, 1}, 3))
	grow(2, lists([]int{0, 1, 2}, 2), lists([]int{0, 1}, 3))
	grow(3, append(lists([]int{0, 1, 2}, 1), []int{1, 2}, []int{2, 1}, []int{1, 1}, []int{2, 2}, []int{1, 0}), lists([]int{0, 1, 2}, 3))
	if right[0] != 1 || right[1] != 3 || right[2] != 18 || right[3] < 150 {
		t.Errorf("so many were right: %v", right)
	}
}

// graphScribe writes a right graph by chance.
type graphScribe struct {
	r     *rand.Rand
	g     impl.Graph
	ended []int // those of the document that may be met again
}

func (w *graphScribe) oneOf(l ...string) string {
	return l[w.r.IntN(len(l))]
}

// node writes one within so many collections, or tells one that is there.
func (w *graphScribe) node(left int) int {
	if len(w.ended) > 0 && w.r.IntN(3) == 0 {
		return w.ended[w.r.IntN(len(w.ended))]
	}
	i := len(w.g.Nodes)
	n := impl.Node{Kind: impl.EvText, Tag: w.oneOf("", "", "t", "!", impl.CoreTag+"int", "é\n")}
	if left > 0 {
		n.Kind = 3 + w.r.IntN(3)
	}
	if n.Kind == impl.EvText {
		n.Text = w.oneOf("", "a", "a", "b c", "\n", "n1", "\xff")
	}
	w.g.Nodes = append(w.g.Nodes, n)
	if n.Kind != impl.EvText {
		many := w.r.IntN(5)
		many += many % 2 * (n.Kind - impl.EvSeq)
		for range many {
			kid := w.node(left - 1)
			w.g.Nodes[i].Kids = append(w.g.Nodes[i].Kids, kid)
		}
	}
	w.ended = append(w.ended, i)
	return i
}

func grownGraph(seed int) impl.Graph {
	w := &graphScribe{r: chance(uint64(seed))}
	for range w.r.IntN(4) {
		w.ended = nil
		root := w.node(w.r.IntN(4))
		w.g.Roots = append(w.g.Roots, root)
	}
	return w.g
}

// alteredGraph changes one thing in a graph, by chance.
func alteredGraph(r *rand.Rand, g impl.Graph) impl.Graph {
	g = cloneGraph(g)
	place := func() int { return r.IntN(len(g.Nodes)+2) - 1 }
	if len(g.Nodes) == 0 || r.IntN(6) == 0 {
		switch k := r.IntN(len(g.Roots) + 1); r.IntN(3) {
		case 0:
			g.Roots = slices.Insert(g.Roots, k, place())
		case 1:
			g.Roots = slices.Delete(g.Roots, max(k-1, 0), k)
		default:
			g.Nodes = append(g.Nodes, impl.Node{Kind: impl.EvText})
		}
		return g
	}
	i, j := r.IntN(len(g.Nodes)), r.IntN(len(g.Nodes))
	n := &g.Nodes[i]
	switch k := r.IntN(len(n.Kids) + 1); r.IntN(8) {
	case 0:
		n.Kind = r.IntN(8)
	case 1:
		n.Tag += "t"
	case 2:
		n.Text += "a"
	case 3:
		n.Kids = slices.Insert(n.Kids, k, place())
	case 4:
		n.Kids = slices.Delete(n.Kids, max(k-1, 0), k)
	case 5:
		g.Nodes[i], g.Nodes[j] = g.Nodes[j], g.Nodes[i]
	case 6:
		g.Nodes = slices.Delete(g.Nodes, i, i+1)
	default:
		if len(n.Kids) > 0 {
			n.Kids[max(k-1, 0)] = place()
		}
	}
	return g
}

// P4, P9: graphs by chance are composed of their events as they were; and such with a thing or two changed are told by the rule.
func TestGraphsByChance(t *testing.T) {
	r := chance(15)
	right, wrong, shared, changed := 0, 0, 0, 0
	for seed := range 12000 {
		g := grownGraph(seed)
		if !checkGraph(t, g) {
			t.Fatalf("%s isn't right", briefGraph(g))
		}
		shared += len(impl.Shared(g))
		other := g
		for range 1 + r.IntN(2) {
			other = alteredGraph(r, other)
			ok := checkGraph(t, other)
			if ok {
				right++
			} else {
				wrong++
			}
			alike := alikeGraphs(g, other)
			if ok && !alike {
				changed++
			}
			if impl.SameGraph(g, other) != (ok && alike) || impl.SameGraph(other, g) != (ok && alike) {
				t.Errorf("SameGraph of\n\t%s and\n\t%s is %v", briefGraph(g), briefGraph(other), impl.SameGraph(g, other))
			}
		}
	}
	if right < 1000 || wrong < 1000 || shared < 1000 || changed < 1000 {
		t.Errorf("met: %d right, %d wrong, %d shared, %d changed", right, wrong, shared, changed)
	}
}

// checkCompose holds the graph of a list against one that is wanted, and asks P4 of it.
func checkCompose(t *testing.T, what string, l []impl.Event, want impl.Graph, wantOk bool) {
	t.Helper()
	got, ok := impl.Compose(l)
	if ok != wantOk || !ok && (len(got.Nodes) > 0 || len(got.Roots) > 0) || ok && !alikeGraphs(got, want) {
		t.Errorf("Compose of %.200q is\n\t%s, %v, not\n\t%s, %v", what, briefGraph(got), ok, briefGraph(want), wantOk)
		return
	}
	if !ok {
		return
	}
	told := checkRight(t, got)
	aliases := func(l []impl.Event) int {
		n := 0
		for _, e := range l {
			if e.Kind == impl.EvAlias {
				n++
			}
		}
		return n
	}
	// Styles, names and marks go; the rest is told as it was.
	if len(told) != len(l) || aliases(told) != aliases(l) {
		t.Errorf("of the graph of %.200q are told\n\t%s", what, briefStream(told))
	}
}

// P4, P9: graphs of events. (Of nestOf Q and M have the tag t, V the tag !, and of texts V has "a\n", A "x", B "a".)
func TestCompose(t *testing.T) {
	for letters, want := range map[string]string{
		// No document, one, several.
		"sz": "/", "sdvxz": "v/0", "sDVXz": "!v/0", "sdqexz": "q/0", "sdmexz": "m/0", "sdvxdvxz": "v v/0,1", "sdqexDmeXdvxz": "q m v/0,1,2", "sdqvexdmvvexdvxz": "q1 v m3,4 v v v/0,2,5",
		// Collections in one another.
		"sdqvexz": "q1 v/0", "sdqvvvexz": "q1,2,3 v v v/0", "sdmvvexz": "m1,2 v v/0", "sdmvvvvexz": "m1,2,3,4 v v v v/0", "sdqqqqeeeexz": "q1 q2 q3 q/0", "sdqqevqveexz": "q1,2,3 q v q4 v/0", "sdmqvemvveexz": "m1,3 q2 v m4,5 v v/0", "sdmvqvmvveeexz": "m1,2 v q3,4 v m5,6 v v/0",
		// Tags and texts.
		"sdQexz": "t!q/0", "sdMvvexz": "t!m1,2 v v/0", "sdqABexz": "q1,2 v=x v=a/0", "sdQMABeexz": "t!q1 t!m2,3 v=x v=a/0",
		// An alias of a scalar, of a collection; several of one node; as a member, a key, a value.
		"sdqAaexz": "q1,1 v=x/0", "sdqQeaexz": "q1,1 t!q/0", "sdqMvvebexz": "q1,1 t!m2,3 v v/0", "sdqAaaaexz": "q1,1,1,1 v=x/0", "sdmAaexz": "m1,1 v=x/0", "sdmAvavexz": "m1,2,1,3 v=x v v/0", "sdmvAvaexz": "m1,2,3,2 v v=x v/0", "sdmAaaaexz": "m1,1,1,1 v=x/0", "sdqAqaeexz": "q1,2 v=x q1/0", "sdqqAeaexz": "q1,2 q2 v=x/0", "sdqQAaeaexz": "q1,2 t!q2,2 v=x/0", "sdqQveMvveabexz": "q1,3,1,3 t!q2 v t!m4,5 v v/0",
		// A shared node within a shared node.
		"sdqQBbebaexz": "q1,2,1 t!q2,2 v=a/0", "sdqMBveqbebexz": "q1,4,2 t!m2,3 v=a v q2/0",
		// An Anchor told twice: the last one ahead of the alias.
		"sdqAAaexz": "q1,2,2 v=x v=x/0", "sdqAaAaexz": "q1,1,2,2 v=x v=x/0", "sdqAQeaexz": "q1,2,2 v=x t!q/0", "sdqQAeaexz": "q1,2 t!q2 v=x/0", "sdqQvAveaexz": "q1,3 t!q2,3,4 v v=x v/0", "sdqAQeaAaexz": "q1,2,2,3,3 v=x t!q v=x/0",
		// In each document its own.
		"sdqAaexdqAaexz": "q1,1 v=x q3,3 v=x/0,2", "sdAxdqAaexz": "v=x q2,2 v=x/0,1", "sdqAaexdvxdqAaexz": "q1,1 v=x v q4,4 v=x/0,2,3",
	} {
		g := drawn(want)
		for i, place := 0, 0; i < len(letters); i++ {
			// A tag that is ! and a text with a break can't be drawn.
			if letters[i] == 'V' {
				g.Nodes[place].Tag, g.Nodes[place].Text = "!", "a\n"
			}
			if strings.IndexByte("qQmMvVAB", letters[i]) >= 0 {
				place++
			}
		}
		l := nestOf(letters)
		checkCompose(t, letters, l, g, true)
		if rule, ok := composeByRule(l, true); !ok || !alikeGraphs(rule, g) {
			t.Errorf("of %q the rule tells %s, %v", letters, briefGraph(rule), ok)
		}
	}
}

// P9: what isn't whole has no graph.
func TestComposeNothing(t *testing.T) {
	checkCompose(t, "nil", nil, impl.Graph{}, false)
	checkCompose(t, "an empty list", []impl.Event{}, impl.Graph{}, false)
	none := append(notNested(),
		// A fault, wherever it may stand.
		"sf", "sdf", "sdvf", "sdvxf", "sdqf", "sdqvf", "sdqvef", "sdmvf", "sdqvexf", "sdqAaf", "sdqAaexdf", "sdvxdvxf",
		// An alias without a node: there is none, it is behind, in another document, around it, not the last of its name.
		"sdaxz", "sdqaexz", "sdqBaexz", "sdqaAexz", "sdAxdaxz", "sdqAexdqaexz", "sdQaexz", "sdQqaeexz", "sdMvbexz", "sdqQeQaeexz", "sdqAQaeexz", "sdqAabexz", "sdmaAexz", "sdvxdaxz",
		// Both.
		"sdaf", "sdqaf", "sdQaf",
	)
	for _, letters := range none {
		checkCompose(t, letters, nestOf(letters), impl.Graph{}, false)
	}
	// What was a stream, with one event spoilt or taken out.
	for _, letters := range []string{"sdqAaexz", "sdmAQeaBbvexz", "sDQvMvveexdvxz"} {
		l := nestOf(letters)
		for i := range l {
			for _, with := range []impl.Event{{}, {Kind: 11}, {Kind: lowest}, {Kind: l[i].Kind, Style: 8}, {Kind: impl.EvFault, Code: 3}, {Kind: impl.EvText, Style: impl.StPlain, Anchor: "a b"}, {Kind: impl.EvText, Style: impl.StPlain, Tag: strings.Repeat("t", mostTag+1)}, {Kind: impl.EvAlias, Text: "zz"}} {
				spoilt := slices.Clone(l)
				spoilt[i] = with
				checkCompose(t, fmt.Sprintf("%s with %v at place %d", letters, with, i), spoilt, impl.Graph{}, false)
			}
			checkCompose(t, fmt.Sprintf("the first %d of %s", i, letters), l[:i], impl.Graph{}, false)
		}
	}
}

// P9: a graph keeps no style, no mark and no name.
func TestComposeWithoutStyles(t *testing.T) {
	want := drawn("m1,2,4,2 v=k t!q3 v=x v=l/0")
	check := func(l []impl.Event) {
		t.Helper()
		checkCompose(t, briefStream(l), l, want, true)
	}
	for style := impl.StPlain; style <= impl.StFolded; style++ {
		for _, around := range []int{impl.StFlow, impl.StBlock} {
			for _, name := range []string{"a", "n0", "n2", "0", "é", strings.Repeat("n", impl.MaxName)} {
				check([]impl.Event{
					{Kind: impl.EvStream}, {Kind: impl.EvDoc, Flag: style%2 == 0},
					{Kind: impl.EvMap, Style: around, Anchor: "m"},
					{Kind: impl.EvText, Style: style, Text: "k"},
					{Kind: impl.EvSeq, Style: 13 - around, Anchor: name, Tag: "t"}, {Kind: impl.EvText, Style: style, Text: "x", Anchor: "x"}, {Kind: impl.EvEnd},
					{Kind: impl.EvText, Style: 6 - style, Text: "l", Anchor: "k"}, {Kind: impl.EvAlias, Text: name},
					{Kind: impl.EvEnd}, {Kind: impl.EvDocEnd, Flag: style > 2}, {Kind: impl.EvStreamEnd},
				})
			}
		}
	}
	for _, s := range []string{"k: &a !<t> [x]\nl: *a\n", "{k: &a !<t> [x], l: *a}", "---\n'k': !<t> &a\n  - \"x\"\n\"l\": *a\n...\n", "--- {\"k\": !<t> &x ['x',], &b l: *x}", "# r\nk:\n  !<t> &a\n  - >-\n    x\nl: *a"} {
		check(impl.Parse(s))
	}
}

// P4, P9: graphs of texts.
func TestComposeTexts(t *testing.T) {
	for _, c := range []struct{ text, told, shared string }{
		{"", "+STR|-STR", "[]"},
		{"a", "+STR|+DOC ---|=VAL \"a|-DOC|-STR", "[]"},
		{"---\n---\n", "+STR|+DOC ---|=VAL \"|-DOC|+DOC ---|=VAL \"|-DOC|-STR", "[]"},
		{"- &a x\n- *a\n- *a\n", "+STR|+DOC ---|+SEQ []|=VAL &n1 \"x|=ALI *n1|=ALI *n1|-END|-DOC|-STR", "[1]"},
		{"- &a x\n- &b y\n- *a\n", "+STR|+DOC ---|+SEQ []|=VAL &n1 \"x|=VAL \"y|=ALI *n1|-END|-DOC|-STR", "[1]"},
		{"a: &n9 {b: !!int 1}\nc: *n9\n", "+STR|+DOC ---|+MAP {}|=VAL \"a|+MAP {} &n2|=VAL \"b|=VAL <tag:yaml.org,2002:int> \"1|-END|=VAL \"c|=ALI *n2|-END|-DOC|-STR", "[2]"},
		{"&k a: 1\n*k : 2\n", "+STR|+DOC ---|+MAP {}|=VAL &n1 \"a|=VAL \"1|=ALI *n1|=VAL \"2|-END|-DOC|-STR", "[1]"},
		{"- &a !t [&b !!str 'x', *b]\n- *b\n- *a\n--- &a !t q\n--- [&a '', *a]\n", "+STR|+DOC ---|+SEQ []|+SEQ [] &n1 <!t>|=VAL &n2 <tag:yaml.org,2002:str> \"x|=ALI *n2|-END|=ALI *n2|=ALI *n1|-END|-DOC|+DOC ---|=VAL <!t> \"q|-DOC|+DOC ---|+SEQ []|=VAL &n5 \"|=ALI *n5|-END|-DOC|-STR", "[1 2 5]"},
		{"a: |\n  b\n\tc\n", "", ""},
		{"*a", "", ""},
		{"- &a x\n--- *a\n", "", ""},
		{"[", "", ""},
		{"a\n--- 'b", "", ""},
		{"\x00", "", ""},
	} {
		g, ok := impl.Compose(impl.Parse(c.text))
		if !ok {
			if c.told != "" || len(g.Nodes)+len(g.Roots) > 0 {
				t.Errorf("Compose of %q is %s, %v", c.text, briefGraph(g), ok)
			}
			continue
		}
		told := strings.TrimSuffix(strings.ReplaceAll(impl.EventsText(checkRight(t, g)), "\n", "|"), "|")
		if told != c.told || fmt.Sprint(impl.Shared(g)) != c.shared {
			t.Errorf("of the graph of %q are told\n\t%s, not\n\t%s, and %v are shared", c.text, told, c.told, impl.Shared(g))
		}
	}
}

// P9: as many nodes as there may be, and one more; aliases are none.
func TestComposeManyNodes(t *testing.T) {
	const within = mostNodes - 1
	for _, s := range []string{"q", "m", "dqvex", "qq", "qm"} {
		for add := -2; add <= 2; add++ {
			n := within + add
			letters, want := "", drawn("q/0")
			switch s {
			case "q":
				letters, want = "sdq"+strings.Repeat("v", n)+"exz", flatOf(n+1)
			case "m":
				// Of pairs there is an even number.
				n += n % 2
				letters, want = "sdm"+strings.Repeat("v", n)+"exz", flatOf(n+1)
				want.Nodes[0].Kind = impl.EvMap
			case "dqvex":
				n++
				letters, want = "s"+strings.Repeat("dvx", n)+"z", rowOf(n)
				n--
			case "qq":
				letters, want = "sd"+strings.Repeat("q", n+1)+strings.Repeat("e", n+1)+"xz", chainOf(n+1, impl.EvSeq, 1)
			default:
				letters, want = "sdqA"+strings.Repeat("v", n-2)+"B"+strings.Repeat("ab", 2*mostNodes)+"exz", flatOf(n+1)
				for range 2 * mostNodes {
					want.Nodes[0].Kids = append(want.Nodes[0].Kids, 1, n)
				}
				want.Nodes[1].Text, want.Nodes[n].Text = "x", "a"
			}
			ok := n+1 <= mostNodes
			if !ok {
				want = impl.Graph{}
			}
			checkCompose(t, letters, nestOf(letters), want, ok)
		}
	}
	for _, letters := range []string{"sdq" + strings.Repeat("v", 1<<17) + "exz", "sd" + strings.Repeat("q", 1<<18) + strings.Repeat("e", 1<<18) + "xz", "s" + strings.Repeat("dqAaex", 1<<14) + "z"} {
		checkCompose(t, letters, nestOf(letters), impl.Graph{}, false)
	}
}

// P4, P9: by the rule, graphs of many lists of events.
func TestComposeOfManyLists(t *testing.T) {
	composed, shared := 0, 0
	check := func(letters string) {
		l := nestOf(letters)
		want, ok := composeByRule(l, nestedByRule(plainLetters.Replace(letters)))
		checkCompose(t, letters, l, want, ok)
		if ok {
			composed++
			shared += len(impl.Shared(want))
		}
	}
	eachText(strings.Split("sdqmvexzf", ""), 4, check)
	eachText(strings.Split("QMAabe", ""), 5, func(within string) {
		check("sdq" + within + "exz")
		check("sd" + within + "xz")
	})
	eachText([]string{"dAx", "dax", "dqAaex", "dQaex", "dqQeaex", "dmvVex", "d", "f"}, 4, func(within string) { check("s" + within + "z") })
	r := chance(31)
	for range 6000 {
		letters := "s"
		for range r.IntN(4) {
			letters += "d" + growNode(r, 24) + "x"
		}
		check(letters + "z")
		cut := 1 + r.IntN(len(letters))
		check(letters[:cut] + letters[min(cut+1, len(letters)):] + "z")
	}
	if composed < 1000 || shared < 1000 {
		t.Errorf("%d were composed, and %d nodes shared", composed, shared)
	}
}

// P4: graphs of streams that are written in many ways.
func TestComposeOfWrittenStreams(t *testing.T) {
	shared := 0
	writtenStreams(3000, 3, func(w *streamScribe) {
		want, ok := composeByRule(w.events, true)
		checkCompose(t, w.text, impl.Parse(w.text), want, ok)
		if !ok {
			t.Fatalf("the rule tells no graph of %q", w.text)
		}
		shared += len(impl.Shared(want))
	})
	if shared < 30 {
		t.Errorf("%d nodes were shared", shared)
	}
}

// P9: the nodes that are met more than once.
func TestShared(t *testing.T) {
	for s, want := range map[string][]int{
		// None.
		"/": nil, "v/0": nil, "q/0": nil, "q1 v/0": nil, "q1,2 v=a v=a/0": nil, "v=a v=a/0,1": nil, "q1 q2 q/0": nil, "m1,2 v v/0": nil, "t!q1,2 t!v t!v/0": nil,
		// One: by one node, by two, three times and more; a scalar and a collection.
		"q1,1 v/0": {1}, "m1,1 v/0": {1}, "q1,1 q/0": {1}, "q1,1,1 v/0": {1}, "m1,1,1,1 m/0": {1}, "q1,2,1 v v/0": {1}, "q1,2,2 v v/0": {2}, "q1,2 v q1/0": {1}, "q1,2 q2 v/0": {2}, "q1,2,3 v q1 q1/0": {1}, "q1,2,3 q2 v q2/0": {2}, "q1 q2 q3,3 v/0": {3}, "q1,1 q2,3 v v/0": {1},
		// Several, rising, whatever the order in which they are met again.
		"q1,2,1,2 v v/0": {1, 2}, "q1,2,2,1 v v/0": {1, 2}, "q1,2,3,3,2,1 v v v/0": {1, 2, 3}, "q1,2,3,3,1 v v v/0": {1, 3}, "q1,1 q2,2 v/0": {1, 2}, "q1,2,1 q2 v/0": {1, 2}, "q1,1 q2,2 q3,3 q/0": {1, 2, 3}, "q1,2,3,4,4,2 v v v v/0": {2, 4}, "m1,2,2,1 v v/0": {1, 2},
		// In several documents.
		"q1,1 v q3,3 v/0,2": {1, 3}, "v q2,2 v v/0,1,3": {2}, "q1 v q3,4,3 v v/0,2": {3},
	} {
		if got := impl.Shared(drawn(s)); !slices.Equal(got, want) {
			t.Errorf("Shared(%q) is %v, not %v", s, got, want)
		}
		checkRight(t, drawn(s))
	}
	// Not right, though nodes stand more than once in it.
	checkWrongs(t, "q1,1 v v/0", "q1,1 v/0,0", "q1,1 q0/0", "q1,1,5 v/0", "q1,1 v q1/0,2", "m1,1,1 v/0", "q2,2,1 v v/0", "v1,1 v/0")
	// A node that isn't far from the last.
	g := flatOf(mostNodes)
	g.Nodes[0].Kids = append(g.Nodes[0].Kids, mostNodes-1, mostNodes-2)
	if got := impl.Shared(g); !slices.Equal(got, []int{mostNodes - 2, mostNodes - 1}) {
		t.Errorf("Shared of the last ones is %v", got)
	}
}

// P4, P9: the events of graphs.
func TestDecompose(t *testing.T) {
	for s, want := range map[string]string{
		// No root, one of each kind, several.
		"/": "", "v/0": `+DOC ---|=VAL "|-DOC|`, "v=a/0": `+DOC ---|=VAL "a|-DOC|`, "q/0": "+DOC ---|+SEQ []|-END|-DOC|", "m/0": "+DOC ---|+MAP {}|-END|-DOC|",
		"v=a q m/0,1,2": `+DOC ---|=VAL "a|-DOC|+DOC ---|+SEQ []|-END|-DOC|+DOC ---|+MAP {}|-END|-DOC|`,
		// With a tag.
		"t!v=a/0": `+DOC ---|=VAL <t> "a|-DOC|`, "t!q/0": "+DOC ---|+SEQ [] <t>|-END|-DOC|", "t!m/0": "+DOC ---|+MAP {} <t>|-END|-DOC|",
		// Collections in one another.
		"q1,2 v=a v=b/0": `+DOC ---|+SEQ []|=VAL "a|=VAL "b|-END|-DOC|`, "m1,2 v=a v=b/0": `+DOC ---|+MAP {}|=VAL "a|=VAL "b|-END|-DOC|`,
		"m1,3 q2 v=a t!m4,5 v=b v=c/0": `+DOC ---|+MAP {}|+SEQ []|=VAL "a|-END|+MAP {} <t>|=VAL "b|=VAL "c|-END|-END|-DOC|`,
		// Shared, with a tag and without one.
		"q1,1 v=a/0": `+DOC ---|+SEQ []|=VAL &n1 "a|=ALI *n1|-END|-DOC|`, "q1,1,1 t!v=a/0": `+DOC ---|+SEQ []|=VAL &n1 <t> "a|=ALI *n1|=ALI *n1|-END|-DOC|`,
		"q1,1 q/0": "+DOC ---|+SEQ []|+SEQ [] &n1|-END|=ALI *n1|-END|-DOC|", "m1,1 t!m/0": "+DOC ---|+MAP {}|+MAP {} &n1 <t>|-END|=ALI *n1|-END|-DOC|",
		"q1,2,1 v=a v=b/0": `+DOC ---|+SEQ []|=VAL &n1 "a|=VAL "b|=ALI *n1|-END|-DOC|`, "q1,2 q2 v=a/0": `+DOC ---|+SEQ []|+SEQ []|=VAL &n2 "a|-END|=ALI *n2|-END|-DOC|`,
		"m1,2,2,1 v=a v=b/0": `+DOC ---|+MAP {}|=VAL &n1 "a|=VAL &n2 "b|=ALI *n2|=ALI *n1|-END|-DOC|`,
		// A shared node within a shared node.
		"q1,1 q2,2 v=a/0":    `+DOC ---|+SEQ []|+SEQ [] &n1|=VAL &n2 "a|=ALI *n2|-END|=ALI *n1|-END|-DOC|`,
		"q1,2,1 q2 q3,3 v/0": `+DOC ---|+SEQ []|+SEQ [] &n1|+SEQ [] &n2|=VAL &n3 "|=ALI *n3|-END|-END|=ALI *n2|=ALI *n1|-END|-DOC|`,
		// In several documents.
		"q1,1 v=a q3,3 v=a/0,2": `+DOC ---|+SEQ []|=VAL &n1 "a|=ALI *n1|-END|-DOC|+DOC ---|+SEQ []|=VAL &n3 "a|=ALI *n3|-END|-DOC|`,
		"v=a m2,2 v=b/0,1":      `+DOC ---|=VAL "a|-DOC|+DOC ---|+MAP {}|=VAL &n2 "b|=ALI *n2|-END|-DOC|`,
		// Names of more than one digit.
		"q1,2,3,4,5,6,7,8,9,10,11,10,9 v v v v v v v v v v v/0": `+DOC ---|+SEQ []|=VAL "|=VAL "|=VAL "|=VAL "|=VAL "|=VAL "|=VAL "|=VAL "|=VAL &n9 "|=VAL &n10 "|=VAL "|=ALI *n10|=ALI *n9|-END|-DOC|`,
	} {
		told := strings.ReplaceAll(impl.EventsText(checkRight(t, drawn(s))), "\n", "|")
		if told != "+STR|"+want+"-STR|" {
			t.Errorf("Decompose(%q) is %s", s, told)
		}
	}
	// Texts and tags come as they are, what can't stand in a text among them.
	for _, text := range []string{"", " ", "a\n", "\x00", "\xff", "*n1", "&n1 a", `"`, strings.Repeat("a", 70000)} {
		g := drawn("q1,1,2 t!v v/0")
		g.Nodes[1].Text = text
		if l := checkRight(t, g); len(l) != 9 || l[3] != (impl.Event{Kind: impl.EvText, Style: impl.StDouble, Text: text, Anchor: "n1", Tag: "t"}) {
			t.Errorf("of the text %.20q is told %.200s", text, briefStream(l))
		}
	}
	// The greatest number that a name has.
	g := flatOf(mostNodes)
	g.Nodes[0].Kids = append(g.Nodes[0].Kids, mostNodes-1)
	if l := checkRight(t, g); len(l) < 5 || l[len(l)-4] != (impl.Event{Kind: impl.EvAlias, Text: "n2999"}) || l[len(l)-5].Anchor != "n2999" {
		t.Errorf("of the last one is told %s", briefStream(l[max(len(l)-5, 0):]))
	}
}

// P9: graphs are the same in all their fields or not at all.
func TestSameGraph(t *testing.T) {
	same := func(a, b impl.Graph, want bool) {
		t.Helper()
		if impl.SameGraph(a, b) != want || impl.SameGraph(b, a) != want {
			t.Errorf("SameGraph of\n\t%s and\n\t%s isn't %v", briefGraph(a), briefGraph(b), want)
		}
	}
	// Each against each: right ones of which no two are alike, though many differ in one field.
	right := []string{
		"/", "v/0", "q/0", "m/0", "v=a/0", "v=b/0", "v=A/0", "v=aa/0", "t!v/0", "u!v/0", "t!v=a/0", "t!q/0", "t!m/0", "u!q/0", "v v/0,1", "v=a v/0,1", "v v=a/0,1", "v v v/0,1,2", "q v/0,1", "v q/0,1", "q1 v/0", "q1 v=a/0", "q1 q/0", "q1,1 v/0", "q1,1,1 v/0", "q1,1,1,1 v/0", "m1,1 v/0", "m1,1,1,1 v/0", "q1,2 v v/0", "m1,2 v v/0", "q1 v v/0,2", "v q2 v/0,1", "q1,2,1 v v/0", "q1,2,2 v v/0", "q1,2 v q1/0", "q1,2 q2 v/0", "q1,2 v q/0", "q1,2 q v/0", "q1 q2 v/0", "q1,2,1,2 v v/0", "q1,2,2,1 v v/0", "q1,2,1,1 v v/0", "q1,2,2,2 v v/0",
	}
	for i, a := range right {
		checkRight(t, drawn(a))
		for k, b := range right {
			same(drawn(a), drawn(b), i == k)
		}
	}
	// One that isn't right, beside itself, beside others that aren't, and beside right ones.
	wrong := []string{"v/", "/0", "v/0,0", "q0/0", "v v/1,0", "q1 v/0,1", "v1 v/0", "m1 v/0", "q=a/0", "q2,1 v v/0", "v v/0"}
	for _, a := range wrong {
		checkWrong(t, drawn(a))
		for _, b := range slices.Concat(wrong, right) {
			same(drawn(a), drawn(b), false)
		}
	}
	// Empty lists beside such that are nil.
	empty := impl.Graph{Nodes: []impl.Node{}, Roots: []int{}}
	same(impl.Graph{}, empty, true)
	same(impl.Graph{Nodes: []impl.Node{}}, impl.Graph{Roots: []int{}}, true)
	for _, s := range []string{"v/0", "q/0", "m/0", "q1,2 v q/0"} {
		filled := cloneGraph(drawn(s))
		for i := range filled.Nodes {
			if len(filled.Nodes[i].Kids) == 0 {
				filled.Nodes[i].Kids = []int{}
			}
		}
		same(drawn(s), filled, true)
		checkRight(t, filled)
	}
	checkRight(t, empty)
}

// P9: two great graphs that differ at their ends alone.
func TestSameGraphGreat(t *testing.T) {
	for _, g := range []impl.Graph{flatOf(mostNodes), rowOf(mostNodes), chainOf(mostNodes, impl.EvSeq, 2)} {
		last := mostNodes - 1
		if !impl.SameGraph(g, cloneGraph(g)) {
			t.Errorf("%s isn't the same as another such one", briefGraph(g))
		}
		for _, spoil := range []func(g *impl.Graph){
			func(g *impl.Graph) { g.Nodes[last].Tag = "t" },
			func(g *impl.Graph) { g.Nodes[last].Kind = impl.EvMap },
			func(g *impl.Graph) { g.Nodes[0].Tag = "t" },
			func(g *impl.Graph) { g.Nodes[last] = impl.Node{Kind: impl.EvText, Text: "a"} },
			func(g *impl.Graph) { g.Nodes[0].Kids = append(g.Nodes[0].Kids, 0) },
			func(g *impl.Graph) { g.Roots = append(g.Roots, 0) },
			func(g *impl.Graph) { g.Nodes = g.Nodes[:last] },
		} {
			other := cloneGraph(g)
			spoil(&other)
			if impl.SameGraph(g, other) || impl.SameGraph(other, g) {
				t.Errorf("%s is the same as %s", briefGraph(g), briefGraph(other))
			}
		}
	}
}

// walledGraph puts something behind each list of a graph, so that what is written there shows.
func walledGraph(g impl.Graph) impl.Graph {
	wall := func(l []int) []int { return append(slices.Clone(l), 77, 78)[:len(l)] }
	g = cloneGraph(g)
	for i := range g.Nodes {
		g.Nodes[i].Kids = wall(g.Nodes[i].Kids)
	}
	g.Nodes = append(g.Nodes, impl.Node{Kind: 77}, impl.Node{Kind: 78})[:len(g.Nodes)]
	g.Roots = wall(g.Roots)
	return g
}

func wallStands(g impl.Graph) bool {
	stands := func(l []int) bool { return slices.Equal(l[len(l):len(l)+2], []int{77, 78}) }
	for _, n := range g.Nodes {
		if !stands(n.Kids) {
			return false
		}
	}
	behind := g.Nodes[len(g.Nodes) : len(g.Nodes)+2]
	return stands(g.Roots) && alikeNodes(behind[0], impl.Node{Kind: 77}) && alikeNodes(behind[1], impl.Node{Kind: 78})
}

func graphsToKeep() []string {
	return []string{"/", "v=a/0", "q1,2,1 v=a t!v/0", "m1,1 q2,2 v/0", "q1,1 v q3,3 v/0,2", "q2,1 v v/0", "q0/0", "v/", "v/0,0", "q1,1 v/0,1", "m1 v/0", "q1,9 v/0"}
}

// Chapter 1: what is handed in isn't changed, nor what stands behind it.
func TestGraphsLeaveWhatIsHandedIn(t *testing.T) {
	for _, s := range graphsToKeep() {
		g := walledGraph(drawn(s))
		impl.GraphOk(g)
		impl.Shared(g)
		impl.Decompose(g)
		impl.SameGraph(g, g)
		impl.SameGraph(g, impl.Graph{})
		if !alikeGraphs(g, drawn(s)) || !wallStands(g) {
			t.Errorf("%q was changed into %s", s, briefGraph(g))
		}
	}
	for _, letters := range append(notNested(), "sz", "sdqAaexz", "sdmvqveexdQexz", "sdqAaf", "sdaxz") {
		l := nestOf(letters)
		whole := append(slices.Clone(l), impl.Event{Kind: 77}, impl.Event{Kind: 78})
		impl.Compose(whole[:len(l)])
		if !slices.Equal(whole[:len(l)], l) || whole[len(l)].Kind != 77 || whole[len(l)+1].Kind != 78 {
			t.Errorf("the events of %q were changed", letters)
		}
	}
}

// graphAnswers is what is told of a graph.
type graphAnswers struct {
	ok     bool
	shared []int
	told   []impl.Event
	back   impl.Graph
}

func askGraph(g impl.Graph) graphAnswers {
	a := graphAnswers{ok: impl.GraphOk(g), shared: impl.Shared(g), told: impl.Decompose(g)}
	a.back, _ = impl.Compose(a.told)
	return a
}

func (a graphAnswers) same(b graphAnswers) bool {
	return a.ok == b.ok && slices.Equal(a.shared, b.shared) && slices.Equal(a.told, b.told) && alikeGraphs(a.back, b.back)
}

// graphByHand tells the answers by the second telling.
func graphByHand(g impl.Graph) graphAnswers {
	if !graphByRule(g) {
		return graphAnswers{}
	}
	return graphAnswers{ok: true, shared: sharedByRule(g), told: eventsByRule(g), back: g}
}

// spoilGraph writes into all lists of a graph, and into what they could still grow by.
func spoilGraph(g impl.Graph) {
	for i := range g.Nodes {
		spoilPlaces(g.Nodes[i].Kids)
		g.Nodes[i] = impl.Node{Kind: 77}
	}
	spoilPlaces(g.Roots)
}

// Chapter 1: an answer hangs on the arguments alone; a later call doesn't change it, nor does writing into another answer or into what was handed in.
func TestGraphsKeepNothing(t *testing.T) {
	graphs := graphsToKeep()
	first, kept := map[string]graphAnswers{}, map[string]graphAnswers{}
	for _, s := range graphs {
		g := drawn(s)
		first[s], kept[s] = askGraph(g), graphByHand(drawn(s))
		spoilGraph(g)
	}
	for range 3 {
		slices.Reverse(graphs)
		for _, s := range graphs {
			g := drawn(s)
			a := askGraph(g)
			if !a.same(kept[s]) {
				t.Errorf("of %q is now told\n\t%+v, not\n\t%+v", s, a, kept[s])
			}
			spoilPlaces(a.shared)
			for i := range a.told {
				a.told[i] = impl.Event{Kind: 77}
			}
			spoilGraph(a.back)
			spoilGraph(g)
		}
	}
	for _, s := range graphs {
		if !first[s].same(kept[s]) {
			t.Errorf("what was told of %q is now\n\t%+v, not\n\t%+v", s, first[s], kept[s])
		}
	}
}

// Chapter 1: no two lists of an answer share memory, nor does an answer with an argument.
func TestGraphAnswersShareNothing(t *testing.T) {
	for _, letters := range []string{"sdvxz", "sdqAaexz", "sdmAaBbexdqvvvexdvxz", "sdqqvveqvvveqveexdvxz", "sdqQABabeMvvebaexz"} {
		l := nestOf(letters)
		g, ok := impl.Compose(l)
		if !ok {
			t.Errorf("%q has no graph", letters)
		}
		want := cloneGraph(g)
		for i := range l {
			l[i] = impl.Event{Kind: 77}
		}
		if !alikeGraphs(g, want) {
			t.Errorf("the graph of %q changes with its events", letters)
		}
		for i := range g.Nodes {
			spoilPlaces(g.Nodes[i].Kids)
			rest := cloneGraph(g)
			rest.Nodes[i].Kids = want.Nodes[i].Kids
			if !alikeGraphs(rest, want) {
				t.Errorf("in the graph of %q the kids of the node %d share memory with another list", letters, i)
			}
			copy(g.Nodes[i].Kids, want.Nodes[i].Kids)
		}
		spoilPlaces(g.Roots)
		g.Roots = want.Roots
		if !alikeGraphs(g, want) {
			t.Errorf("in the graph of %q the roots share memory with another list", letters)
		}
	}
	g := drawn("q1,2,1,2 v=a m3,3 t!v=b/0")
	shared, l := impl.Shared(g), impl.Decompose(g)
	wantShared, wantTold := sharedByRule(g), eventsByRule(g)
	spoilGraph(g)
	if !slices.Equal(shared, wantShared) || !slices.Equal(l, wantTold) {
		t.Errorf("with the graph changes what was told of it: %v, %s", shared, briefStream(l))
	}
}

// Every call ends, in time, also for great graphs and lists.
func TestGreatGraphs(t *testing.T) {
	const many = 1 << 16
	// Ways through it as many as two to the number of nodes.
	wide := chainOf(mostNodes, impl.EvSeq, 100)
	if l := checkRight(t, wide); len(l) != 4+2*mostNodes+99*(mostNodes-1) {
		t.Errorf("of a wide one are told %d events", len(l))
	}
	wide.Nodes[mostNodes-1].Kids = []int{0}
	checkWrong(t, wide)
	// Long lists.
	g := drawn("q1 v/0")
	g.Nodes[0].Kids = slices.Repeat([]int{1}, many)
	if l := checkRight(t, g); len(l) != many+6 {
		t.Errorf("of a long one are told %d events", len(l))
	}
	g.Nodes[0].Kids = append(g.Nodes[0].Kids, 2)
	checkWrong(t, g)
	g.Nodes[0].Kids = append(slices.Repeat([]int{1}, many), 0)
	checkWrong(t, g)
	g = drawn("v/0")
	g.Roots = make([]int, many)
	checkWrong(t, g)
	g = drawn("m1,1 q2,2 v/0")
	g.Nodes[0].Kids = slices.Repeat([]int{1, 2, 2, 1}, many/4)
	checkRight(t, g)
	// Deep below, each of the many met again.
	deep := chainOf(mostNodes-1, impl.EvSeq, 1)
	last := mostNodes - 2
	deep.Nodes = append(deep.Nodes, impl.Node{Kind: impl.EvText})
	deep.Nodes[last].Kids = slices.Repeat([]int{mostNodes - 1}, many)
	checkRight(t, deep)
	deep.Nodes[last].Kids[many-1] = 0
	checkWrong(t, deep)
	letters := "sdqA" + strings.Repeat("a", many) + "exz"
	want := drawn("q1 v=x/0")
	want.Nodes[0].Kids = slices.Repeat([]int{1}, many+1)
	checkCompose(t, letters, nestOf(letters), want, true)
}
