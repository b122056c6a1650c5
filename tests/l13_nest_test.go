package tests

import (
	"fmt"
	"math/rand/v2"
	"slices"
	"strings"
	"testing"

	"loop.example/g00666/impl"
)

// nestOf tells the events for which letters stand, those of eventOf and some more: A and B are scalars with the anchors a and b, b and c aliases.
// (Of eventOf Q bears the anchor a, M the anchor b, V the anchor c, and a is an alias.)
func nestOf(letters string) []impl.Event {
	l := eventsOf(letters)
	for i := range l {
		switch letters[i] {
		case 'A':
			l[i] = impl.Event{Kind: impl.EvText, Style: impl.StSingle, Text: "x", Anchor: "a"}
		case 'B':
			l[i] = impl.Event{Kind: impl.EvText, Style: impl.StPlain, Text: "a", Anchor: "b"}
		case 'b':
			l[i] = impl.Event{Kind: impl.EvAlias, Text: "b"}
		case 'c':
			l[i] = impl.Event{Kind: impl.EvAlias, Text: "c"}
		}
	}
	return l
}

// notNested has a list for each kind of reason for which events aren't a stream. Most of them would have nodes to tell of.
func notNested() []string {
	return []string{
		// Nothing at all.
		"",
		// It ends too soon.
		"s", "sd", "sdv", "sdQAae", "sdqvex", "sdqvexdv", "sdq", "sdmvv", "sdQAaex",
		// EvStream isn't first, or comes again.
		"dqvexz", "qve", "v", "z", "dQAaexz", "sdqvexsz", "ssdqvexz", "sdqsvexz",
		// Something behind the end.
		"sdqvexzz", "sdqvexzf", "sdqvexzv", "sdqvexzdvx", "szdqvex",
		// A fault first, twice, or with something behind it.
		"f", "fdqvexz", "sdqvff", "sdqvfexz", "sdqvfe", "sfdqvexz", "sdqvexfz",
		// An event that isn't right.
		"sdqv?exz", "sdq!exz", "?sdqvexz", "sdqvexz?", "!dqvexz", "sdqv?f",
		// A document without a node, and with two.
		"sdxz", "sdxdqvexz", "sdqvevxz", "sdvqvexz", "sdqeqexz", "sdvvf",
		// A node outside of a document, one document in another, an end of none.
		"sqvez", "sdqvexvz", "sddqvexxz", "sdqdvxexz", "sdqvexxz", "sxz", "sdqvexqvez",
		// An end that lacks, and one too many.
		"sdqvxz", "sdqqvexz", "sdqmvvexz", "sdqveexz", "sdeqvexz", "sdvexz", "sdqvexez",
		// Half a pair.
		"sdmvexz", "sdmvvvexz", "sdqmqeevexz", "sdmvqmveeexz",
	}
}

// wrongPlaces has places that no list of that many events has.
func wrongPlaces(n int) []int {
	return []int{lowest, lowest + 1, -1 << 32, -2, -1, n, n + 1, n + 2, 1<<32 + 2, highest - 1, highest}
}

// nestAnswers is what is told of a list: of each of its places, and of all of it.
type nestAnswers struct {
	ends, ups, defs []int
	kids            [][]int
	roots           []int
	tied, whole     bool
}

func askNest(l []impl.Event) nestAnswers {
	a := nestAnswers{roots: impl.RootsOf(l), tied: impl.Tied(l), whole: impl.Whole(l)}
	for i := range l {
		a.ends = append(a.ends, impl.EndOf(l, i))
		a.ups = append(a.ups, impl.UpOf(l, i))
		a.defs = append(a.defs, impl.DefOf(l, i))
		a.kids = append(a.kids, impl.KidsOf(l, i))
	}
	return a
}

func (a nestAnswers) same(b nestAnswers) bool {
	return slices.Equal(a.ends, b.ends) && slices.Equal(a.ups, b.ups) && slices.Equal(a.defs, b.defs) && slices.EqualFunc(a.kids, b.kids, slices.Equal) && slices.Equal(a.roots, b.roots) && a.tied == b.tied && a.whole == b.whole
}

func isNode(e impl.Event) bool {
	return e.Kind >= 3 && e.Kind <= 6
}

func isCollection(e impl.Event) bool {
	return e.Kind == 3 || e.Kind == 4
}

// endNestByRule counts from i on what is open.
func endNestByRule(l []impl.Event, i int) int {
	if !isNode(l[i]) {
		return -1
	}
	depth := 0
	for j := i; j < len(l); j++ {
		switch {
		case isCollection(l[j]):
			depth++
		case l[j].Kind == 7:
			depth--
		}
		if depth == 0 {
			return j
		}
	}
	return -1
}

// upByRule goes back from i to the first collection that isn't ended on the way.
func upByRule(l []impl.Event, i int) int {
	ended := 0
	for j := i - 1; j >= 0; j-- {
		switch {
		case l[j].Kind == 7:
			ended++
		case isCollection(l[j]) && ended == 0:
			return j
		case isCollection(l[j]):
			ended--
		}
	}
	return -1
}

// kidsByRule goes from the end of one to the beginning of the next.
func kidsByRule(l []impl.Event, i int) []int {
	if !isCollection(l[i]) {
		return nil
	}
	var out []int
	for j := i + 1; isNode(l[j]); {
		out = append(out, j)
		end := endNestByRule(l, j)
		if end < 0 {
			break
		}
		j = end + 1
	}
	return out
}

// defByRule goes back from i to the first node with the name, or to the beginning of the document.
func defByRule(l []impl.Event, i int) int {
	if l[i].Kind != 6 {
		return -1
	}
	j := i - 1
	for l[j].Kind != 2 && l[j].Anchor != l[i].Text {
		j--
	}
	if end := endNestByRule(l, j); end < 0 || end > i {
		return -1
	}
	return j
}

// nestByRule is the second telling of events of which it is known whether they are nested.
func nestByRule(l []impl.Event, nested bool) nestAnswers {
	a := nestAnswers{tied: nested, whole: nested}
	for i := range l {
		end, up, def, kids := -1, -1, -1, []int(nil)
		if nested {
			end, up, def, kids = endNestByRule(l, i), upByRule(l, i), defByRule(l, i), kidsByRule(l, i)
			if isNode(l[i]) && l[i-1].Kind == 2 {
				a.roots = append(a.roots, i)
			}
			a.tied = a.tied && (l[i].Kind != 6 || def > 0)
			a.whole = a.whole && a.tied && l[i].Kind != 10
		}
		a.ends, a.ups, a.defs, a.kids = append(a.ends, end), append(a.ups, up), append(a.defs, def), append(a.kids, kids)
	}
	return a
}

// placeCase is what one function tells of a place.
type placeCase struct {
	letters string
	i, want int
}

func checkPlaces(t *testing.T, name string, ask func([]impl.Event, int) int, l []placeCase) {
	t.Helper()
	for _, c := range l {
		if got := ask(nestOf(c.letters), c.i); got != c.want {
			t.Errorf("%s(%q, %d) is %d, not %d", name, c.letters, c.i, got, c.want)
		}
	}
}

// P9: where nodes end.
func TestEndOf(t *testing.T) {
	checkPlaces(t, "EndOf", impl.EndOf, []placeCase{
		// Scalars and aliases, as a document's node and within.
		{"sdvxz", 2, 2}, {"sdVxz", 2, 2}, {"sdaxz", 2, 2}, {"sdvxdvxz", 5, 5}, {"sdqvaexz", 3, 3}, {"sdqvaexz", 4, 4}, {"sdmvVexz", 3, 3}, {"sdmvVexz", 4, 4}, {"sdQAaexz", 4, 4},
		// Collections without others in them.
		{"sdqexz", 2, 3}, {"sdmexz", 2, 3}, {"sdQexz", 2, 3}, {"sdMexz", 2, 3}, {"sdqvexz", 2, 4}, {"sdqvvvexz", 2, 6}, {"sdmvvexz", 2, 5}, {"sdqexdmexz", 6, 7},
		// Collections in one another.
		{"sdqqeexz", 2, 5}, {"sdqqeexz", 3, 4}, {"sdqqqeeexz", 2, 7}, {"sdqqqeeexz", 3, 6}, {"sdqqqeeexz", 4, 5}, {"sdqqeqeexz", 2, 7}, {"sdqqeqeexz", 3, 4}, {"sdqqeqeexz", 5, 6}, {"sdmqemvveexz", 2, 9}, {"sdmqemvveexz", 3, 4}, {"sdmqemvveexz", 5, 8}, {"sdmvqvmvaeevvexz", 2, 13}, {"sdmvqvmvaeevvexz", 4, 10}, {"sdmvqvmvaeevvexz", 6, 9},
		// What a fault cuts off isn't ended; what is ended ahead of it is.
		{"sdqf", 2, -1}, {"sdmf", 2, -1}, {"sdqvf", 2, -1}, {"sdqvf", 3, 3}, {"sdmvf", 2, -1}, {"sdmvf", 3, 3}, {"sdqqef", 2, -1}, {"sdqqef", 3, 4}, {"sdqqf", 3, -1}, {"sdqexdqqef", 2, 3}, {"sdqexdqqef", 6, -1}, {"sdqexdqqef", 7, 8}, {"sdqef", 2, 3}, {"sdqexf", 2, 3}, {"sdvf", 2, 2}, {"sdmvqvf", 4, -1}, {"sdmvqvef", 4, 6}, {"sdmvqvef", 2, -1},
	})
	// No other event is a node.
	for _, letters := range []string{"sDqvaeXdmvvexz", "sdqvexdmvqf", "sdvxf", "sf", "sdf", "sz"} {
		for i, letter := range letters {
			if strings.ContainsRune("sdDxXezf", letter) {
				checkPlaces(t, "EndOf", impl.EndOf, []placeCase{{letters, i, -1}})
			}
		}
	}
}

// P9: which nodes stand directly in a collection.
func TestKidsOf(t *testing.T) {
	for _, c := range []struct {
		letters string
		i       int
		want    []int
	}{
		// A list, a map, and empty ones.
		{"sdqvexz", 2, []int{3}}, {"sdqvaVexz", 2, []int{3, 4, 5}}, {"sdQAaexz", 2, []int{3, 4}}, {"sdmvvexz", 2, []int{3, 4}}, {"sdmvavVexz", 2, []int{3, 4, 5, 6}}, {"sdMBbexz", 2, []int{3, 4}}, {"sdqexz", 2, nil}, {"sdmexz", 2, nil}, {"sdqexdqvexz", 2, nil}, {"sdqexdqvexz", 6, []int{7}},
		// Members that are collections: not what stands in them.
		{"sdqqvveexz", 2, []int{3}}, {"sdqqvveexz", 3, []int{4, 5}}, {"sdqqevmvvevexz", 2, []int{3, 5, 6, 10}}, {"sdqqevmvvevexz", 3, nil}, {"sdqqevmvvevexz", 6, []int{7, 8}}, {"sdmvqvveqevexz", 2, []int{3, 4, 8, 10}}, {"sdmvqvveqevexz", 4, []int{5, 6}}, {"sdmvqvveqevexz", 8, nil}, {"sdqqqqveeeexz", 2, []int{3}}, {"sdqqqqveeeexz", 4, []int{5}},
		// What a fault cuts off: as far as it is there, one that isn't ended too.
		{"sdqf", 2, nil}, {"sdmf", 2, nil}, {"sdqvf", 2, []int{3}}, {"sdqvvf", 2, []int{3, 4}}, {"sdmvf", 2, []int{3}}, {"sdmvvvf", 2, []int{3, 4, 5}}, {"sdqvqf", 2, []int{3, 4}}, {"sdqvqf", 4, nil}, {"sdqvqvvf", 2, []int{3, 4}}, {"sdqvqvvf", 4, []int{5, 6}}, {"sdqvqvef", 2, []int{3, 4}}, {"sdmvmvqf", 2, []int{3, 4}}, {"sdmvmvqf", 4, []int{5, 6}}, {"sdmvmvqf", 6, nil}, {"sdqvef", 2, []int{3}}, {"sdqvexdqqf", 2, []int{3}}, {"sdqvexdqqf", 7, []int{8}},
		// No collection stands there.
		{"sdqvexz", 0, nil}, {"sdqvexz", 1, nil}, {"sdqvexz", 3, nil}, {"sdqvexz", 4, nil}, {"sdqvexz", 5, nil}, {"sdqvexz", 6, nil}, {"sdqaexz", 3, nil}, {"sdqvf", 4, nil}, {"sdvxz", 1, nil}, {"sdvxz", 2, nil}, {"sz", 0, nil}, {"sz", 1, nil}, {"sf", 1, nil},
	} {
		if got := impl.KidsOf(nestOf(c.letters), c.i); !slices.Equal(got, c.want) {
			t.Errorf("KidsOf(%q, %d) is %v, not %v", c.letters, c.i, got, c.want)
		}
	}
}

// P9: what is around a place.
func TestUpOf(t *testing.T) {
	checkPlaces(t, "UpOf", impl.UpOf, []placeCase{
		// A document's node, and what stands in none.
		{"sdvxz", 2, -1}, {"sdaxz", 2, -1}, {"sdqvexz", 2, -1}, {"sdmexz", 2, -1}, {"sdqvexz", 0, -1}, {"sdqvexz", 1, -1}, {"sdqvexdmvvexz", 7, -1},
		// A member, a member of a member.
		{"sdqvexz", 3, 2}, {"sdqvaexz", 4, 2}, {"sdmvvexz", 3, 2}, {"sdmvvexz", 4, 2}, {"sdqqveexz", 3, 2}, {"sdqqveexz", 4, 3}, {"sdmvqveexz", 4, 2}, {"sdmvqveexz", 5, 4}, {"sdqqqqveeeexz", 6, 5}, {"sdqexdqvexz", 7, 6},
		// An EvEnd has its own collection around it, and what is behind it the next one.
		{"sdqexz", 3, 2}, {"sdqvexz", 4, 2}, {"sdmvvexz", 5, 2}, {"sdqqveexz", 5, 3}, {"sdqqveexz", 6, 2}, {"sdqqvevexz", 6, 2}, {"sdqqeqeexz", 4, 3}, {"sdqqeqeexz", 5, 2}, {"sdqqeqeexz", 6, 5}, {"sdqqeqeexz", 7, 2}, {"sdmqevexz", 5, 2}, {"sdqqqveevexz", 8, 2},
		// Between documents.
		{"sdqvexz", 5, -1}, {"sdqvexz", 6, -1}, {"sdqvexdmvvexz", 5, -1}, {"sdqvexdmvvexz", 6, -1}, {"sdqvexdmvvexz", 11, -1}, {"sdqvexdmvvexz", 12, -1}, {"sz", 0, -1}, {"sz", 1, -1}, {"sdvxz", 3, -1}, {"sdvxz", 4, -1},
		// A fault, and what a fault cuts off.
		{"sf", 1, -1}, {"sdf", 2, -1}, {"sdvf", 3, -1}, {"sdvxf", 4, -1}, {"sdqf", 3, 2}, {"sdmf", 3, 2}, {"sdqvf", 4, 2}, {"sdmvf", 4, 2}, {"sdqvf", 3, 2}, {"sdqqf", 4, 3}, {"sdqqf", 3, 2}, {"sdqqef", 5, 2}, {"sdqqeef", 6, -1}, {"sdqvef", 5, -1}, {"sdqvexf", 6, -1}, {"sdmvqvmf", 7, 6}, {"sdmvqvmf", 6, 4}, {"sdqqf", 2, -1}, {"sdqexdqvf", 8, 6}, {"sdqexdf", 6, -1},
	})
}

// P9: which node an alias is.
func TestDefOf(t *testing.T) {
	checkPlaces(t, "DefOf", impl.DefOf, []placeCase{
		// A scalar, a collection, in the same one and in another.
		{"sdqAaexz", 4, 3}, {"sdmAaexz", 4, 3}, {"sdqVcexz", 4, 3}, {"sdqQeaexz", 5, 3}, {"sdqMebexz", 5, 3}, {"sdqQvveaexz", 7, 3}, {"sdqMvvebexz", 7, 3}, {"sdqAvvaexz", 6, 3}, {"sdqqAeaexz", 6, 4}, {"sdqAqaeexz", 5, 3}, {"sdqqAeqaeexz", 7, 4}, {"sdmvAavexz", 5, 4}, {"sdqQqeeqaeexz", 8, 3}, {"sdqAaaexz", 4, 3}, {"sdqAaaexz", 5, 3}, {"sdqABbaexz", 5, 4}, {"sdqABbaexz", 6, 3}, {"sdqBAbaVcexz", 8, 7},
		// Told twice: the last one ahead of the alias.
		{"sdqAAaexz", 5, 4}, {"sdqAaAaexz", 4, 3}, {"sdqAaAaexz", 6, 5}, {"sdqAQeaexz", 6, 4}, {"sdqQeAaexz", 6, 5}, {"sdqQAeaexz", 6, 4}, {"sdqQvAveaexz", 8, 5}, {"sdqAaAexz", 4, 3}, {"sdqQAaeaexz", 5, 4}, {"sdqQAaeaexz", 7, 4}, {"sdQAaexz", 4, 3}, {"sdQQeaexz", 5, 3},
		// It stands within the collection that bears its Anchor, which doesn't end ahead of it.
		{"sdQaexz", 3, -1}, {"sdQvaexz", 4, -1}, {"sdMbvexz", 3, -1}, {"sdQqaeexz", 4, -1}, {"sdQqvevaexz", 7, -1}, {"sdqQaeexz", 4, -1}, {"sdqAQaeexz", 5, -1}, {"sdqAQaeaexz", 7, 4}, {"sdQAQaeexz", 5, -1}, {"sdqMvbebexz", 5, -1}, {"sdqMvbebexz", 7, 3},
		// The last one counts also where one ahead of it would be ended.
		{"sdqQeQaeexz", 6, -1}, {"sdqAqQvaeeexz", 7, -1},
		// There is none, only behind it, or only in another document.
		{"sdaxz", 2, -1}, {"sdqaexz", 3, -1}, {"sdqBaexz", 4, -1}, {"sdqvaexz", 4, -1}, {"sdqaAexz", 3, -1}, {"sdqMeaexz", 5, -1}, {"sdqaaexz", 4, -1}, {"sdAxdaxz", 5, -1}, {"sdAxdqaexz", 6, -1}, {"sdqAexdqvaexz", 9, -1}, {"sdaxdAxz", 2, -1}, {"sdQexdaxz", 6, -1}, {"sdAxdqAaexz", 7, 6}, {"sdqAaexdqAaexz", 4, 3}, {"sdqAaexdqAaexz", 10, 9}, {"sdqAaexdqaAexz", 9, -1}, {"sdAxdvxdqaexz", 9, -1}, {"sdAxdQaexz", 6, -1}, {"sDqAexDqBaexz", 9, -1},
		// What a fault cuts off.
		{"sdqAaf", 4, 3}, {"sdqAaf", 5, -1}, {"sdQaf", 3, -1}, {"sdqQeaf", 5, 3}, {"sdqQvaf", 5, -1}, {"sdqAQvaf", 6, -1}, {"sdaf", 2, -1}, {"sdAxdaf", 5, -1}, {"sdmAaf", 4, 3}, {"sdqQAaf", 5, 4},
	})
	// No other event is an alias, and its own Anchor makes it none.
	for _, letters := range []string{"sdqAAvQAeexz", "sdmAQeMevexdAxz", "sdqAf", "sdQAef", "sz", "sf"} {
		for i := range letters {
			checkPlaces(t, "DefOf", impl.DefOf, []placeCase{{letters, i, -1}})
		}
	}
}

// P9: names are the same in all their bytes or not at all; a text that is a name isn't one, nor is a tag.
func TestDefOfNames(t *testing.T) {
	long := strings.Repeat("n", impl.MaxName)
	names := []string{"a", "A", "aa", "ab", "b", "0", "é", "e", "\xff", "\xfe", "\x00", "*a", "&a", "-", long, long[1:], long[1:] + "m"}
	ahead := []impl.Event{{Kind: impl.EvStream}, {Kind: impl.EvDoc}, {Kind: impl.EvSeq, Style: impl.StFlow}}
	behind := []impl.Event{{Kind: impl.EvEnd}, {Kind: impl.EvDocEnd}, {Kind: impl.EvStreamEnd}}
	for _, anchor := range names {
		for _, name := range names {
			for _, node := range []impl.Event{
				{Kind: impl.EvText, Style: impl.StPlain, Anchor: anchor},
				{Kind: impl.EvText, Style: impl.StPlain, Anchor: anchor, Text: "q", Tag: "q"},
				{Kind: impl.EvText, Style: impl.StPlain, Text: anchor},
				{Kind: impl.EvText, Style: impl.StPlain, Tag: anchor},
				{Kind: impl.EvAlias, Text: anchor},
			} {
				l := slices.Concat(ahead, []impl.Event{node, {Kind: impl.EvAlias, Text: name}}, behind)
				want := -1
				if node.Anchor == name {
					want = 3
				}
				if got := impl.DefOf(l, 4); got != want || impl.Tied(l) != (want > 0) || impl.Whole(l) != (want > 0) {
					t.Errorf("DefOf of %q behind %#v is %d, and Tied %v", name, node, got, impl.Tied(l))
				}
			}
		}
	}
}

// P9: the nodes of the documents.
func TestRootsOf(t *testing.T) {
	for _, c := range []struct {
		letters string
		want    []int
	}{
		// None, one of each kind, several.
		{"sz", nil}, {"sdvxz", []int{2}}, {"sDVXz", []int{2}}, {"sdaxz", []int{2}}, {"sdqexz", []int{2}}, {"sdmexz", []int{2}}, {"sdqqvevexz", []int{2}}, {"sdmvqveexz", []int{2}}, {"sdvxdvxz", []int{2, 5}}, {"sdvxDaXdvxz", []int{2, 5, 8}}, {"sdqvexdmvvexdvxz", []int{2, 7, 13}}, {"sdqqqeeexdqexdqvexz", []int{2, 10, 14}},
		// A fault ahead of a document, of its node, within it, and behind it.
		{"sf", nil}, {"sdf", nil}, {"sdvf", []int{2}}, {"sdvxf", []int{2}}, {"sdqf", []int{2}}, {"sdqvf", []int{2}}, {"sdqqf", []int{2}}, {"sdmvqvf", []int{2}}, {"sdqef", []int{2}}, {"sdvxdf", []int{2}}, {"sdvxdvf", []int{2, 5}}, {"sdvxdqvf", []int{2, 5}}, {"sdqvexdmvqqf", []int{2, 7}}, {"sdvxdvxdf", []int{2, 5}},
	} {
		if got := impl.RootsOf(nestOf(c.letters)); !slices.Equal(got, c.want) {
			t.Errorf("RootsOf(%q) is %v, not %v", c.letters, got, c.want)
		}
	}
}

// P9: streams whose aliases have their nodes, with a fault and without.
func TestTiedAndWhole(t *testing.T) {
	check := func(tied, whole bool, lists ...string) {
		t.Helper()
		for _, letters := range lists {
			l := nestOf(letters)
			if !impl.Nested(l) {
				t.Errorf("%q isn't nested", letters)
			}
			if got := impl.Tied(l); got != tied {
				t.Errorf("Tied(%q) is %v", letters, got)
			}
			if got := impl.Whole(l); got != whole {
				t.Errorf("Whole(%q) is %v", letters, got)
			}
		}
	}
	check(true, true, "sz", "sdvxz", "sdqexz", "sdmvvexz", "sdAxz", "sdQexdMexz", "sdqAaexz", "sdqQeaexz", "sdqAaaexz", "sdmAaBbexdVxz", "sdqABabexz", "sdqAaAaexz", "sdqAaexdqAaexz", "sdQAaexz", "sdmVcVcexz", "sdqMVcebexz")
	check(true, false, "sf", "sdf", "sdvf", "sdvxf", "sdqf", "sdmvf", "sdqAaf", "sdqQeaf", "sdQAaf", "sdqAaexf", "sdqAaexdqqf", "sdQf", "sdqAaexdf")
	check(false, false, "sdaxz", "sdqaexz", "sdQaexz", "sdqaAexz", "sdqBaexz", "sdqAbexz", "sdqAabexz", "sdqbAaexz", "sdAxdaxz", "sdqAaexdaxz", "sdaxdqAaexz", "sdqAQaeexz", "sdqQaeaexz", "sdmAbexz", "sdMvbexz")
	check(false, false, "sdaf", "sdqaf", "sdQaf", "sdqAaaexdaf", "sdqbAaf", "sdAxdaf", "sdqQvaf", "sdaxf", "sdqaexdf")
}

// checkNothing asks that there is nothing to tell of a list at any place.
func checkNothing(t *testing.T, what string, l []impl.Event) {
	t.Helper()
	for _, i := range append(wrongPlaces(len(l)), 0, 1, 2, 3, 4, 5, 6, 7, 8, 9) {
		if end, up, def, kids := impl.EndOf(l, i), impl.UpOf(l, i), impl.DefOf(l, i), impl.KidsOf(l, i); end != -1 || up != -1 || def != -1 || len(kids) > 0 {
			t.Errorf("of %s at place %d: EndOf %d, UpOf %d, DefOf %d, KidsOf %v", what, i, end, up, def, kids)
		}
	}
	if roots, tied, whole := impl.RootsOf(l), impl.Tied(l), impl.Whole(l); len(roots) > 0 || tied || whole {
		t.Errorf("of %s: RootsOf %v, Tied %v, Whole %v", what, roots, tied, whole)
	}
}

// P9: lists that aren't nested, for each kind of reason.
func TestNestOfWrongLists(t *testing.T) {
	checkNothing(t, "nil", nil)
	checkNothing(t, "an empty list", []impl.Event{})
	for _, letters := range notNested() {
		checkNothing(t, letters, nestOf(letters))
	}
	// What was a stream, with one event spoilt, taken out, or told twice; and its beginnings.
	for _, letters := range []string{"sdqAaexz", "sdmAQeaBbvexz", "sdqqvf"} {
		l := nestOf(letters)
		if !impl.Nested(l) {
			t.Errorf("%q isn't nested", letters)
		}
		for i := range l {
			for _, with := range []impl.Event{{}, {Kind: 11}, {Kind: lowest}, {Kind: l[i].Kind, Style: 8}, {Kind: impl.EvFault}} {
				spoilt := slices.Clone(l)
				spoilt[i] = with
				checkNothing(t, fmt.Sprintf("%q with %v at place %d", letters, with, i), spoilt)
			}
			checkNothing(t, fmt.Sprintf("the first %d of %q", i, letters), l[:i])
			if strings.IndexByte("sdexzf", letters[i]) >= 0 {
				checkNothing(t, fmt.Sprintf("%q without place %d", letters, i), slices.Delete(slices.Clone(l), i, i+1))
				checkNothing(t, fmt.Sprintf("%q twice at place %d", letters, i), slices.Insert(slices.Clone(l), i, l[i]))
			}
		}
	}
}

// P9: places that a list hasn't.
func TestNestOfWrongPlaces(t *testing.T) {
	for _, letters := range []string{"sz", "sdvxz", "sdqAaexz", "sdmvqveexz", "sdQf", "sdqqqf", "sdqAaf", "sdmvf", "sf", "sdf", "sdqvexdqqvf"} {
		l := nestOf(letters)
		for _, i := range wrongPlaces(len(l)) {
			if end, up, def, kids := impl.EndOf(l, i), impl.UpOf(l, i), impl.DefOf(l, i), impl.KidsOf(l, i); end != -1 || up != -1 || def != -1 || len(kids) > 0 {
				t.Errorf("of %q at place %d: EndOf %d, UpOf %d, DefOf %d, KidsOf %v", letters, i, end, up, def, kids)
			}
		}
	}
}

var plainLetters = strings.NewReplacer("D", "d", "X", "x", "Q", "q", "M", "m", "V", "v", "A", "v", "B", "v", "a", "v", "b", "v", "c", "v")

// checkNest holds what is told of a list against the second telling, and counts what was met.
func checkNest(t *testing.T, letters string, met map[string]int) {
	t.Helper()
	l := nestOf(letters)
	want := nestByRule(l, nestedByRule(plainLetters.Replace(letters)))
	got := askNest(l)
	if !got.same(want) {
		t.Fatalf("of %q is told\n\t%+v, not\n\t%+v", letters, got, want)
	}
	if got.tied {
		met["tied"]++
	}
	if got.whole {
		met["whole"]++
	}
	if len(got.roots) > 1 {
		met["roots"]++
	}
	for i := range l {
		if got.defs[i] > 0 {
			met["def"]++
		}
		if isCollection(l[i]) && got.ends[i] < 0 && len(got.kids[i]) > 0 {
			met["cut off"]++
		}
		if len(got.kids[i]) > 1 {
			met["kids"]++
		}
		if u := got.ups[i]; u > 0 && got.ups[u] > 0 {
			met["up"]++
		}
	}
}

func wantMet(t *testing.T, met map[string]int, least int) {
	t.Helper()
	for _, word := range []string{"tied", "whole", "roots", "def", "cut off", "kids", "up"} {
		if met[word] < least {
			t.Errorf("%s was met %d times", word, met[word])
		}
	}
}

// P9: all functions answer by their rules at all places of many lists, nested and not.
func TestNestOfManyLists(t *testing.T) {
	met := map[string]int{}
	check := func(letters string) { checkNest(t, letters, met) }
	eachText(strings.Split("sdqmvexzf", ""), 5, check)
	eachText(strings.Split("QMAabe", ""), 5, func(within string) {
		check("sdq" + within + "exz")
		check("sd" + within + "f")
	})
	eachText([]string{"dAx", "dax", "dqAaex", "dQaex", "d", "q", "a", "f", "z"}, 4, func(within string) {
		check("s" + within)
		check("s" + within + "z")
	})
	wantMet(t, met, 200)
}

// growNode writes a node by chance of about so many events.
func growNode(r *rand.Rand, size int) string {
	if size < 2 || r.IntN(8) == 0 {
		return "vVABabcaA"[r.IntN(9):][:1]
	}
	out := "qmQM"[r.IntN(4):][:1]
	pairs := out == "m" || out == "M"
	for left := r.IntN(size); left > 0; {
		for range 1 + map[bool]int{true: 1}[pairs] {
			node := growNode(r, r.IntN(1+max(left, 0)))
			out += node
			left -= len(node)
		}
	}
	return out + "e"
}

// P9: the same of longer lists by chance: streams, streams that a fault cuts off, and such with an event too many or too few.
func TestNestByChance(t *testing.T) {
	met := map[string]int{}
	r := chance(23)
	for range 2000 {
		letters := "s"
		for range r.IntN(4) {
			letters += "d" + growNode(r, 24) + "x"
		}
		letters += "z"
		checkNest(t, letters, met)
		cut := 1 + r.IntN(len(letters)-1)
		checkNest(t, letters[:cut]+"f", met)
		checkNest(t, letters[:cut]+letters[cut+1:], met)
		checkNest(t, letters[:cut]+letters[r.IntN(len(letters)):][:1]+letters[cut:], met)
	}
	wantMet(t, met, 500)
}

// nestWrong tells what keeps the nodes of a text from being as P2 has them.
func nestWrong(l []impl.Event, a nestAnswers) string {
	fault := slices.ContainsFunc(l, func(e impl.Event) bool { return e.Kind == impl.EvFault })
	switch {
	case !impl.Nested(l):
		return "it isn't nested"
	case !a.tied:
		return "it isn't tied"
	case a.whole == fault:
		return "it is whole with a fault, or not without"
	}
	inCollections := 0
	for i, kids := range a.kids {
		end := a.ends[i]
		inCollections += len(kids)
		for k, kid := range kids {
			last := k == len(kids)-1
			switch {
			case a.ups[kid] != i:
				return "a node hasn't around it the collection in which it stands"
			case k == 0 && kid != i+1 || k > 0 && kid != a.ends[kids[k-1]]+1:
				return "the nodes in a collection don't stand one behind the other"
			case a.ends[kid] < 0 && (!last || end >= 0):
				return "a node isn't ended, but the collection is, or another node is behind it"
			case end >= 0 && (a.ends[kid] >= end || last && a.ends[kid] != end-1):
				return "the nodes in a collection don't end within it"
			}
		}
		if end >= 0 && l[i].Kind == impl.EvMap && len(kids)%2 > 0 {
			return "a key has no value"
		}
	}
	nodes := 0
	for i, e := range l {
		if isNode(e) {
			nodes++
		}
		if def := a.defs[i]; e.Kind == impl.EvAlias && (l[def].Anchor != e.Text || a.ends[def] < def || a.ends[def] >= i) {
			return "an alias isn't behind the end of its node"
		}
	}
	if nodes != inCollections+len(a.roots) {
		return "a node stands in no collection and in no document, or in two"
	}
	if depthOf(l, a) > impl.MaxDepth {
		return "it is too deep"
	}
	return ""
}

// depthOf tells how many collections stand in one another.
func depthOf(l []impl.Event, a nestAnswers) int {
	most := 0
	for i := range l {
		depth := 0
		if isCollection(l[i]) {
			depth = 1
		}
		for up := a.ups[i]; up >= 0; up = a.ups[up] {
			depth++
		}
		most = max(most, depth)
	}
	return most
}

// checkTold holds what Parse tells of a text against P2, and its nodes against the second telling; it counts the codes.
func checkTold(t *testing.T, s string, codes map[int]int) nestAnswers {
	t.Helper()
	l := impl.Parse(s)
	a := askNest(l)
	if wrong := nestWrong(l, a); wrong != "" {
		t.Fatalf("of %q is told\n\t%s: %s", s, briefStream(l), wrong)
	}
	if want := nestByRule(l, true); !a.same(want) {
		t.Fatalf("of %q is told\n\t%+v, not\n\t%+v", s, a, want)
	}
	codes[l[len(l)-1].Code]++
	return a
}

// P2: what is told of any text is nested and tied, and whole where there is no fault; its nodes stand in one another as they should.
func TestToldNodesOfManyTexts(t *testing.T) {
	codes := map[int]int{}
	check := func(s string) { checkTold(t, s, codes) }
	eachText([]string{"&x ", "*x", "[", "]", "{", "}", ", ", ": ", "a"}, 5, check)
	eachText([]string{"- ", "a: ", "&x ", "*x", "\n", "  ", "b", "--- ", "...\n"}, 5, check)
	eachText([]string{"---\n", "...\n", "&x\n", "- *x\n", "- &x a\n", "k: &x\n", "  - b\n", "  *x : c\n", "'d\n", "\te\n", "&x [&x f, *x]\n"}, 4, check)
	eachText([]string{"\x00", "\xff", "é", "%YAML 1.2\n", "%TAG ! t\n", "---", "\n", " ", "!a!b c", "|\n", "\"\\q"}, 4, check)
	wantCodes(t, codes, 0, 1, 2, 3, 4, 5, 7, 8, 9, 10, 11, 13, 14, 15, 16)
}

// P2: the same of streams written in many ways, and of these cut off anywhere.
func TestToldNodesOfWrittenStreams(t *testing.T) {
	codes, aliases := map[int]int{}, 0
	writtenStreams(3000, 3, func(w *streamScribe) {
		a := checkTold(t, w.text, codes)
		if want := nestByRule(w.events, true); !a.same(want) || !a.whole {
			t.Fatalf("of %q is told\n\t%+v, not\n\t%+v", w.text, a, want)
		}
		for _, def := range a.defs {
			aliases += min(def+1, 1)
		}
	})
	writtenStreams(60, 3, func(w *streamScribe) {
		for cut := range len(w.text) {
			checkTold(t, w.text[:cut], codes)
		}
	})
	wantCodes(t, codes, 0, 3, 13)
	if aliases < 50 {
		t.Errorf("%d aliases were met", aliases)
	}
}

// P2: collections stand in one another MaxDepth deep, and not deeper.
func TestToldNodesDepth(t *testing.T) {
	codes := map[int]int{}
	for _, letters := range []string{"q", "m", "qm", "mq", "mmq"} {
		for _, n := range []int{0, 1, 2, 39, 40, 41, 42, 60} {
			want := min(n, impl.MaxDepth)
			open, _ := deepFlow(n, letters, "")
			closed, _ := closedFlow(n, letters)
			block, _, _ := deepBlock(n, letters, "")
			half, _, _ := deepBlock(n/2, letters, "")
			inner, _ := deepFlow(n-n/2, letters, "&x ")
			innerEnd, _ := closedFlow(n-n/2, letters)
			for _, s := range []string{open + "x" + closed, block + "x", half + inner + "x" + innerEnd, "---\n" + block + "x\n--- y\n", "--- [a]\n--- " + open + "x" + closed} {
				a := checkTold(t, s, codes)
				l := impl.Parse(s)
				if deep := depthOf(l, a); deep != max(want, strings.Count(s, "--- [a]")) || a.whole != (n <= impl.MaxDepth) {
					t.Errorf("of %q is told a depth of %d, and Whole %v", s, deep, a.whole)
				}
				if last := l[len(l)-1]; n > impl.MaxDepth && last.Code != 12 {
					t.Errorf("of %q is told the code %d", s, last.Code)
				}
			}
		}
	}
	wantCodes(t, codes, 0, 12)
}

// P9: what the texts of the document's kind tell, from the text on.
func TestNodesOfTexts(t *testing.T) {
	for _, c := range []struct {
		s           string
		ends, ups   string
		kids, roots string
		defs        string
		whole       bool
	}{
		{"", "- -", "- -", "", "[]", "- -", true},
		{"a", "- - 2 - -", "- - - - -", "", "[2]", "- - - - -", true},
		{"---\n---\n", "- - 2 - - 5 - -", "- - - - - - - -", "", "[2 5]", "- - - - - - - -", true},
		{"[]", "- - 3 - - -", "- - - 2 - -", "", "[2]", "- - - - - -", true},
		{"- &x a\n- *x\n", "- - 5 3 4 - - -", "- - - 2 2 2 - -", "2[3 4]", "[2]", "- - - - 3 - - -", true},
		{"&x {a: [b, c]}\n--- d", "- - 8 3 7 5 6 - - - - 11 - -", "- - - 2 2 4 4 4 2 - - - - -", "2[3 4] 4[5 6]", "[2 11]", "- - - - - - - - - - - - - -", true},
		{"- a\n- [b", "- - - 3 - 5 -", "- - - 2 2 4 4", "2[3 4] 4[5]", "[2]", "- - - - - - -", false},
		{"--- *x", "- - -", "- - -", "", "[]", "- - -", false},
		{"a\n--- 'b", "- - 2 - - -", "- - - - - -", "", "[2]", "- - - - - -", false},
		{"a: &x b\nc: &x [*x]\n", "- - - 3 4 5 - -", "- - - 2 2 2 2 6", "2[3 4 5 6]", "[2]", "- - - - - - - -", false},
	} {
		l := impl.Parse(c.s)
		words := func(l []int) string { return strings.ReplaceAll(strings.Trim(fmt.Sprint(l), "[]"), "-1", "-") }
		a := askNest(l)
		kids := ""
		for i, k := range a.kids {
			if len(k) > 0 {
				kids += fmt.Sprintf(" %d%v", i, k)
			}
		}
		got := []string{words(a.ends), words(a.ups), strings.TrimSpace(kids), fmt.Sprint(a.roots), words(a.defs)}
		if !slices.Equal(got, []string{c.ends, c.ups, c.kids, c.roots, c.defs}) || !a.tied || a.whole != c.whole {
			t.Errorf("of %q is told %q, Tied %v, Whole %v", c.s, got, a.tied, a.whole)
		}
	}
}

// Chapter 1: what is handed in isn't changed, nor what stands behind it.
func TestNestLeavesItsLists(t *testing.T) {
	for _, letters := range append(notNested(), "sz", "sdqAaexz", "sdmvqveexdQexz", "sdqqqf", "sdqAaf") {
		l := nestOf(letters)
		whole := append(slices.Clone(l), impl.Event{Kind: 77}, impl.Event{Kind: 78})
		part := whole[:len(l)]
		askNest(part)
		for _, i := range wrongPlaces(len(l)) {
			impl.EndOf(part, i)
			impl.UpOf(part, i)
			impl.DefOf(part, i)
			impl.KidsOf(part, i)
		}
		if !slices.Equal(part, l) || whole[len(l)].Kind != 77 || whole[len(l)+1].Kind != 78 {
			t.Errorf("the events of %q were changed", letters)
		}
	}
}

// spoilPlaces writes into a list of places, and into what it could still grow by.
func spoilPlaces(l []int) {
	whole := l[:cap(l)]
	for i := range whole {
		whole[i] = 77
	}
}

// Chapter 1: an answer hangs on the arguments alone; a later call doesn't change it, nor does writing into another.
func TestNestKeepsNothing(t *testing.T) {
	lists := []string{"sz", "sdqAaexz", "sdqvavexdmvvexz", "sdmAaBbexdqvvvexdvxz", "sdqqvqf", "sdaxz", "sdqaexz", "", "sdqA", "sdAxdaxz", "sdvxdvxdvxz"}
	first, kept := map[string]nestAnswers{}, map[string]nestAnswers{}
	for _, letters := range lists {
		first[letters] = askNest(nestOf(letters))
		kept[letters] = nestByRule(nestOf(letters), nestedByRule(plainLetters.Replace(letters)))
	}
	for range 3 {
		slices.Reverse(lists)
		for _, letters := range lists {
			l := nestOf(letters)
			a := askNest(l)
			if !a.same(kept[letters]) {
				t.Errorf("of %q is now told\n\t%+v, not\n\t%+v", letters, a, kept[letters])
			}
			spoilPlaces(a.roots)
			for _, kids := range a.kids {
				spoilPlaces(kids)
			}
			for i := range l {
				l[i] = impl.Event{Kind: 77}
			}
		}
	}
	for _, letters := range lists {
		if !first[letters].same(kept[letters]) {
			t.Errorf("what was told of %q is now\n\t%+v, not\n\t%+v", letters, first[letters], kept[letters])
		}
	}
}

// Every call ends, in time, also for great lists.
func TestGreatNests(t *testing.T) {
	const n = 60000
	check := func(letters string, i, end, up, def, kids, roots int, tied, whole bool) {
		t.Helper()
		l := nestOf(letters)
		if got := []int{impl.EndOf(l, i), impl.UpOf(l, i), impl.DefOf(l, i), len(impl.KidsOf(l, i)), len(impl.RootsOf(l))}; !slices.Equal(got, []int{end, up, def, kids, roots}) || impl.Tied(l) != tied || impl.Whole(l) != whole {
			t.Errorf("of %q .. of %d events at place %d is told %v, Tied %v, Whole %v", letters[:8], len(l), i, got, impl.Tied(l), impl.Whole(l))
		}
	}
	many := func(s string) string { return strings.Repeat(s, n) }
	check("sd"+many("q")+many("e")+"xz", 2, 2*n+1, -1, -1, 1, 1, true, true)
	check("sd"+many("q")+many("e")+"xz", n+1, n+2, n, -1, 0, 1, true, true)
	check("sd"+many("q")+many("e")+"xz", 2*n+1, -1, 2, -1, 0, 1, true, true)
	check("sd"+many("q")+"f", n+2, -1, n+1, -1, 0, 1, true, false)
	check("sd"+many("q")+"f", 2, -1, -1, -1, 1, 1, true, false)
	check("sdm"+many("vv")+"exz", 2, 2*n+3, -1, -1, 2*n, 1, true, true)
	check("sdqA"+many("a")+"exz", n+3, n+3, 2, 3, 0, 1, true, true)
	check("sdqA"+many("a")+"bexz", n+3, n+3, 2, 3, 0, 1, false, false)
	check("sdq"+many("Aa")+"exz", 2*n+2, 2*n+2, 2, 2*n+1, 0, 1, true, true)
	check("sd"+many("Q")+"a"+many("e")+"xz", n+2, n+2, n+1, -1, 0, 1, false, false)
	check("s"+many("dvx")+"z", 3*n-1, 3*n-1, -1, -1, 0, n, true, true)
	check("s"+many("dqAaex")+"z", 6*n-2, 6*n-2, 6*n-4, 6*n-3, 0, n, true, true)
	check("sdAx"+many("dax")+"z", 5, 5, -1, -1, 0, n+1, false, false)
	// As many names as aliases.
	l := nestOf("sdq")
	for k := range n {
		l = append(l, impl.Event{Kind: impl.EvText, Style: impl.StPlain, Anchor: fmt.Sprint(k)})
	}
	for k := range n {
		l = append(l, impl.Event{Kind: impl.EvAlias, Text: fmt.Sprint(k)})
	}
	l = append(l, nestOf("exz")...)
	if got := impl.DefOf(l, 3+2*n-1); got != 3+n-1 || !impl.Whole(l) {
		t.Errorf("with %d names DefOf is %d, and Whole %v", n, got, impl.Whole(l))
	}
}
