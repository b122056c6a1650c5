package tests

import (
	"fmt"
	"maps"
	"math/rand/v2"
	"regexp"
	"slices"
	"strconv"
	"strings"
	"testing"

	"loop.example/g00666/impl"
)

// segs reads steps as words: * and ** for any one and any number, and else a letter (i for an index, n for a name, k for a key) with what belongs to it behind it.
func segs(words ...string) []impl.Seg {
	var l []impl.Seg
	for _, word := range words {
		s := impl.Seg{}
		switch {
		case word == "*":
			s.Kind = 4
		case word == "**":
			s.Kind = 5
		case word[0] == 'k':
			s = impl.Seg{Kind: 2, Text: word[1:]}
		default:
			n, err := strconv.Atoi(word[1:])
			if err != nil {
				panic(word)
			}
			s = impl.Seg{Kind: map[byte]int{'i': 1, 'n': 3}[word[0]], N: n}
		}
		l = append(l, s)
	}
	return l
}

// segsIn reads the words of a line; keys have no blanks then.
func segsIn(line string) []impl.Seg { return segs(strings.Fields(line)...) }

func indexSeg(n int) impl.Seg { return impl.Seg{Kind: 1, N: n} }

func TestPathConstants(t *testing.T) {
	if impl.MaxSegs != 60 {
		t.Errorf("MaxSegs is %d", impl.MaxSegs)
	}
	if got := []int{impl.SgIndex, impl.SgKey, impl.SgName, impl.SgAny, impl.SgDeep}; !slices.Equal(got, []int{1, 2, 3, 4, 5}) {
		t.Errorf("the kinds of steps are %v", got)
	}
}

// segByRule is the second telling of SegOk.
func segByRule(s impl.Seg) bool {
	switch s.Kind {
	case 1, 3:
		return s.N >= 0 && s.N <= 4294967295 && s.Text == ""
	case 2:
		return s.N == 0
	case 4, 5:
		return s == impl.Seg{Kind: s.Kind}
	}
	return false
}

// P9: each Kind, N at its ends, and a Text.
func TestSegOk(t *testing.T) {
	for _, c := range []struct {
		s    impl.Seg
		want bool
	}{
		// Each Kind, and one below and above.
		{impl.Seg{}, false}, {impl.Seg{Kind: 1}, true}, {impl.Seg{Kind: 2}, true}, {impl.Seg{Kind: 3}, true}, {impl.Seg{Kind: 4}, true}, {impl.Seg{Kind: 5}, true}, {impl.Seg{Kind: 6}, false}, {impl.Seg{Kind: -1}, false}, {impl.Seg{Kind: 1<<32 + 1}, false}, {impl.Seg{Kind: lowest}, false}, {impl.Seg{Kind: highest}, false},
		// N, where the kind has one.
		{impl.Seg{Kind: 1, N: 1}, true}, {impl.Seg{Kind: 1, N: impl.MaxNum}, true}, {impl.Seg{Kind: 1, N: impl.MaxNum + 1}, false}, {impl.Seg{Kind: 1, N: -1}, false}, {impl.Seg{Kind: 1, N: lowest}, false}, {impl.Seg{Kind: 1, N: highest}, false},
		{impl.Seg{Kind: 3, N: 1}, true}, {impl.Seg{Kind: 3, N: impl.MaxNum}, true}, {impl.Seg{Kind: 3, N: impl.MaxNum + 1}, false}, {impl.Seg{Kind: 3, N: -1}, false}, {impl.Seg{Kind: 3, N: lowest}, false}, {impl.Seg{Kind: 3, N: highest}, false},
		// N, where it has none.
		{impl.Seg{Kind: 2, N: 1}, false}, {impl.Seg{Kind: 2, N: -1, Text: "a"}, false}, {impl.Seg{Kind: 2, N: impl.MaxNum}, false}, {impl.Seg{Kind: 4, N: 1}, false}, {impl.Seg{Kind: 4, N: -1}, false}, {impl.Seg{Kind: 5, N: 1}, false}, {impl.Seg{Kind: 5, N: highest}, false},
		// A Text.
		{impl.Seg{Kind: 2, Text: "a"}, true}, {impl.Seg{Kind: 2, Text: " \x00\xff'/"}, true}, {impl.Seg{Kind: 2, Text: strings.Repeat("a", 1<<20)}, true}, {impl.Seg{Kind: 1, Text: "a"}, false}, {impl.Seg{Kind: 3, Text: "0"}, false}, {impl.Seg{Kind: 4, Text: "*"}, false}, {impl.Seg{Kind: 5, Text: "\x00"}, false}, {impl.Seg{Text: "a"}, false}, {impl.Seg{Kind: 6, Text: "a"}, false},
	} {
		if got := impl.SegOk(c.s); got != c.want {
			t.Errorf("SegOk(%.60q) is %v", fmt.Sprint(c.s), got)
		}
	}
	for _, s := range manySegs() {
		if got, want := impl.SegOk(s), segByRule(s); got != want {
			t.Errorf("SegOk(%+v) is %v", s, got)
		}
	}
}

// manySegs has steps with all fields at their ends, right ones and wrong ones.
func manySegs() []impl.Seg {
	var l []impl.Seg
	for _, kind := range append(numbersFrom(-2, 8), lowest, highest, 1<<32+1, 1<<32+2) {
		for _, n := range []int{0, 1, 2, -1, 9, 10, impl.MaxNum - 1, impl.MaxNum, impl.MaxNum + 1, 1<<32 + 1, -1 << 32, lowest, highest} {
			for _, text := range []string{"", "a", "0", "'", "/", "*", "\x00"} {
				l = append(l, impl.Seg{Kind: kind, N: n, Text: text})
			}
		}
	}
	return l
}

func wrongSegs() []impl.Seg {
	return slices.DeleteFunc(manySegs(), segByRule)
}

// keyTextByRule is the second telling of KeyText, at a place of events that are nested.
func keyTextByRule(l []impl.Event, i int) string {
	if l[i].Kind == 6 && defByRule(l, i) > 0 {
		i = defByRule(l, i)
	}
	if l[i].Kind == 5 {
		return l[i].Text
	}
	return ""
}

// pathByRule is the second telling of PathOf, at a place of events that are nested.
func pathByRule(l []impl.Event, i int) []impl.Seg {
	up := upByRule(l, i)
	if up < 0 {
		return nil
	}
	out := pathByRule(l, up)
	if endNestByRule(l, up) == i {
		return out
	}
	kids := kidsByRule(l, up)
	k := len(kids) - 1
	for k >= 0 && kids[k] > i {
		k--
	}
	switch {
	case k < 0:
		return out
	case l[up].Kind == 3:
		return append(out, indexSeg(k))
	case k%2 == 0:
		return append(out, impl.Seg{Kind: 3, N: k / 2})
	}
	return append(out, impl.Seg{Kind: 2, Text: keyTextByRule(l, kids[k-1])})
}

// P9: what nodes are called as keys.
func TestKeyText(t *testing.T) {
	check := func(letters string, i int, want string) {
		t.Helper()
		if got := impl.KeyText(nestOf(letters), i); got != want {
			t.Errorf("KeyText(%q, %d) is %q, not %q", letters, i, got, want)
		}
	}
	checkAll := func(letters string, want ...string) {
		t.Helper()
		for i := range letters {
			check(letters, i, want[i])
		}
	}
	// Each kind of an event.
	checkAll("sDqAmevVeXz", "", "", "", "x", "", "", "", "a\n", "", "", "")
	checkAll("sdmAqevf", "", "", "", "x", "", "", "", "")
	checkAll("sdBxf", "", "", "a", "", "")
	// Aliases of texts: a key, a value, a member, a document's node; in one and another document.
	check("sdqAaexz", 4, "x")
	check("sdmAaexz", 4, "x")
	check("sdmAaavexz", 5, "x")
	check("sdqABabexz", 5, "x")
	check("sdqABabexz", 6, "a")
	check("sdqVcexz", 4, "a\n")
	check("sdqAqaeexz", 5, "x")
	check("sdqqAeaexz", 6, "x")
	check("sdqAaf", 4, "x")
	check("sdAxdqAaexz", 7, "x")
	check("sdaxz", 2, "")
	// The last one with the name counts, which may be none at all.
	check("sdqAQeaexz", 6, "")
	check("sdqQeAaexz", 6, "x")
	check("sdqAQaeexz", 5, "")
	check("sdAxdqaexz", 6, "")
	// Aliases of collections, and without a node.
	check("sdqQeaexz", 5, "")
	check("sdqMebexz", 5, "")
	check("sdmQevaaexz", 6, "")
	check("sdqaexz", 3, "")
	check("sdqBaexz", 4, "")
	check("sdqaAexz", 3, "")
	check("sdQaexz", 3, "")
	check("sdqAbf", 4, "")
	// In any style, with all bytes.
	for _, text := range []string{"", "a", " a b ", "'", "/", "a\n\nb\n", "\x00\xff", "é😀", strings.Repeat("a", 70000)} {
		for style := range 5 {
			l := nestOf("sdmAaexz")
			l[3].Text, l[3].Style = text, style+1
			for i := 3; i <= 4; i++ {
				if got := impl.KeyText(l, i); got != text {
					t.Errorf("KeyText is %.30q, not %.30q", got, text)
				}
			}
		}
	}
}

// checkPaths holds the paths of all places against words: a dot for no step, and else the steps with / between them.
func checkPaths(t *testing.T, l []impl.Event, want string) {
	t.Helper()
	words := strings.Fields(want)
	if len(l) != len(words) {
		t.Fatalf("%s has %d events, not %d", briefStream(l), len(l), len(words))
	}
	for i, word := range words {
		var path []impl.Seg
		if word != "." {
			path = segs(strings.Split(word, "/")...)
		}
		if got := impl.PathOf(l, i); !slices.Equal(got, path) {
			t.Errorf("of %s the path of place %d is %v, not %s", briefStream(l), i, got, word)
		}
	}
}

// P9: the path of each place of a stream.
func TestPathOf(t *testing.T) {
	for _, c := range []struct{ text, want string }{
		// No document, one without a collection, empty ones.
		{"", ". ."}, {"a", ". . . . ."}, {"[]", ". . . . . ."}, {"{}", ". . . . . ."},
		// Members of a list, of a map: keys, values, ends.
		{"[a, b, c]", ". . . i0 i1 i2 . . ."},
		{"{a: b, c: d}", ". . . n0 ka n1 kc . . ."},
		{"a: b\n'': c\n", ". . . n0 ka n1 k . . ."},
		// Members in members.
		{"[[a], b, [[c], []]]", ". . . i0 i0/i0 i0 i1 i2 i2/i0 i2/i0/i0 i2/i0 i2/i1 i2/i1 i2 . . ."},
		{"a:\n- b\n- c: d\n  e: {}\nf: g\n", ". . . n0 ka ka/i0 ka/i1 ka/i1/n0 ka/i1/kc ka/i1/n1 ka/i1/ke ka/i1/ke ka/i1 ka n1 kf . . ."},
		// Keys that are the same, and aliases.
		{"{a: b, a: c}", ". . . n0 ka n1 ka . . ."},
		{"{&a b : c, *a : d, e: *a}", ". . . n0 kb n1 kb n2 ke . . ."},
		{"- &a [b]\n- *a\n- {*a : c}\n", ". . . i0 i0/i0 i0 i1 i2 i2/n0 i2/k i2 . . ."},
		// Several documents: each has its own root.
		{"- a\n---\n- b\n- c: d\n--- e\n", ". . . i0 . . . . i0 i1 i1/n0 i1/kc i1 . . . . . ."},
		// Faults: within members, behind them, in a collection without any, in a map behind a key.
		{"[a, [b, 'c", ". . . i0 i1 i1/i0 i1/i0"}, {"[a, b c: d", ". . . i0 i1 i1"}, {"[", ". . . ."}, {"{", ". . . ."}, {"[a, [", ". . . i0 i1 i1"}, {"[a, b", ". . . i0 i1 i1"},
		{"{a: b, c: {", ". . . n0 ka n1 kc kc"}, {"{a: b, c: {d: 'e", ". . . n0 ka n1 kc kc/n0 kc/n0"}, {"{a: 'b", ". . . n0 n0"}, {"{a: b, c: d", ". . . n0 ka n1 kc kc"},
		{"- a\n- [b]]", ". . . i0 i1 i1/i0 i1 i1"}, {"- - a\n  - 'b", ". . . i0 i0/i0 i0/i0"},
		// Faults within no collection.
		{"[a]\n--- b: c\n", ". . . i0 . . . . ."}, {"%", ". ."}, {"'a' b", ". . . ."}, {"- a\nb", ". . . i0 . ."},
	} {
		checkPaths(t, impl.Parse(c.text), c.want)
	}
	for _, c := range []struct{ letters, want string }{
		// Keys that are collections.
		{"sdmqveAexz", ". . . n0 n0/i0 n0 k . . ."},
		{"sdmmvqeevexz", ". . . n0 n0/n0 n0/k n0/k n0 k . . ."},
		{"sdqQemaqveeexz", ". . . i0 i0 i1 i1/n0 i1/k i1/k/i0 i1/k i1 . . ."},
		// Aliases of texts, as values too, and within what the key is for.
		{"sdmAvavexz", ". . . n0 kx n1 kx . . ."},
		{"sdmAqaeaqaeexz", ". . . n0 kx kx/i0 kx n1 kx kx/i0 kx . . ."},
		// A node that is none for its alias, and an alias without one.
		{"sdmavbvexz", ". . . n0 k n1 k . . ."},
		{"sdAxdmavexz", ". . . . . . n0 k . . ."},
		{"sdMbvBvbvexz", ". . . n0 k n1 ka n2 ka . . ."},
		{"sdmAqvQeaqeeexz", ". . . n0 kx kx/i0 kx/i1 kx/i1 kx/i2 kx/i3 kx/i3 kx . . ."},
		// Cut off.
		{"sdmqf", ". . . n0 n0"}, {"sdmqvef", ". . . n0 n0/i0 n0 n0"}, {"sdmBqvf", ". . . n0 ka ka/i0 ka/i0"}, {"sdmBqf", ". . . n0 ka ka"}, {"sdqqeef", ". . . i0 i0 . ."}, {"sdqexf", ". . . . . ."}, {"sdf", ". . ."},
	} {
		checkPaths(t, nestOf(c.letters), c.want)
	}
}

// checkNoPaths: nothing is told of any place.
func checkNoPaths(t *testing.T, what string, l []impl.Event, places []int) {
	t.Helper()
	for _, i := range places {
		if path, text := impl.PathOf(l, i), impl.KeyText(l, i); len(path) > 0 || text != "" {
			t.Errorf("of %s at place %d are told %v and %q", what, i, path, text)
		}
	}
}

// P9: lists that are no streams, and places that aren't there.
func TestPathsOfNothing(t *testing.T) {
	for _, letters := range notNested() {
		l := nestOf(letters)
		checkNoPaths(t, letters, l, append(wrongPlaces(len(l)), numbersFrom(0, len(l)-1)...))
	}
	for _, letters := range []string{"sz", "sf", "sdAxz", "sdqAaexz", "sdmABAvexz", "sdqAqA" + "f", "sdmAqAf"} {
		l := nestOf(letters)
		if !impl.Nested(l) {
			t.Errorf("%s should be a stream", letters)
		}
		checkNoPaths(t, letters, l, wrongPlaces(len(l)))
	}
	checkNoPaths(t, "nothing", nil, append(wrongPlaces(0), 0))
	checkNoPaths(t, "nothing", []impl.Event{}, append(wrongPlaces(0), 0))
}

// checkListPaths holds what is told of a list against the second telling, and counts what was met.
func checkListPaths(t *testing.T, letters string, met map[string]int) {
	t.Helper()
	l := nestOf(letters)
	if !nestedByRule(plainLetters.Replace(letters)) {
		met["wrong"]++
		checkNoPaths(t, letters, l, numbersFrom(-1, len(l)))
		return
	}
	checkEventPaths(t, letters, l, met)
}

// checkEventPaths does so with events that are nested.
func checkEventPaths(t *testing.T, what string, l []impl.Event, met map[string]int) {
	t.Helper()
	for i, e := range l {
		path, text := impl.PathOf(l, i), impl.KeyText(l, i)
		if want := pathByRule(l, i); !slices.Equal(path, want) {
			t.Fatalf("of %q the path of place %d is %v, not %v", what, i, path, want)
		}
		if want := keyTextByRule(l, i); text != want {
			t.Fatalf("of %q the text of place %d is %q, not %q", what, i, text, want)
		}
		checkWithin(t, what, l, i, path)
		switch {
		case len(path) == 0:
		case e.Kind == 10:
			met["fault"]++
		case e.Kind == 7:
			met["end"]++
		default:
			met[fmt.Sprint("step ", path[len(path)-1].Kind)]++
		}
		if e.Kind == 6 && text != "" {
			met["alias"]++
		}
		if len(path) > 2 {
			met["deep"]++
		}
	}
	checkNoPaths(t, what, l, wrongPlaces(len(l)))
}

// checkWithin: the path of a member is that of its collection and one step more, and no other member has it but for a key that is there twice; at its end it is its own.
func checkWithin(t *testing.T, what string, l []impl.Event, i int, path []impl.Seg) {
	t.Helper()
	for _, k := range impl.KidsOf(l, i) {
		in := impl.PathOf(l, k)
		if len(in) != len(path)+1 || !slices.Equal(in[:len(path)], path) {
			t.Errorf("of %q the path of place %d is %v, that of its member %d %v", what, i, path, k, in)
		}
	}
	if end := impl.EndOf(l, i); end >= 0 && !slices.Equal(impl.PathOf(l, end), path) {
		t.Errorf("of %q the path of place %d is %v, that of its end %v", what, i, path, impl.PathOf(l, end))
	}
}

// P3, P9: paths and texts of all places of many lists, nested and not, by their rules.
func TestPathsOfManyLists(t *testing.T) {
	met := map[string]int{}
	check := func(letters string) { checkListPaths(t, letters, met) }
	eachText(strings.Split("sdqmvexzf", ""), 4, check)
	eachText(strings.Split("QMAabe", ""), 5, func(within string) {
		check("sdm" + within + "exz")
		check("sd" + within + "f")
	})
	eachText([]string{"dAx", "dmAaBbex", "dQaex", "d", "q", "A", "a", "f", "z"}, 4, func(within string) {
		check("s" + within)
		check("s" + within + "z")
	})
	wantCounts(t, met, 200, "wrong", "fault", "end", "step 1", "step 2", "step 3", "alias", "deep")
}

// P3, P9: the same of longer lists by chance, and of streams that were written.
func TestPathsByChance(t *testing.T) {
	met := map[string]int{}
	r := chance(17)
	for range 500 {
		letters := "s"
		for range r.IntN(4) {
			letters += "d" + growNode(r, 24) + "x"
		}
		letters += "z"
		cut := 1 + r.IntN(len(letters)-1)
		checkListPaths(t, letters, met)
		checkListPaths(t, letters[:cut]+"f", met)
		checkListPaths(t, letters[:cut]+letters[cut+1:], met)
	}
	writtenStreams(300, 3, func(w *streamScribe) {
		checkEventPaths(t, w.text, w.events, met)
		cut := w.text[:w.r.IntN(len(w.text)+1)]
		checkEventPaths(t, cut, impl.Parse(cut), met)
	})
	wantCounts(t, met, 200, "wrong", "fault", "end", "step 1", "step 2", "step 3", "alias", "deep")
}

func checkCurPath(t *testing.T, c impl.Cursor, want []impl.Seg) {
	t.Helper()
	if got := impl.CurPath(c); !slices.Equal(got, want) {
		t.Errorf("CurPath at %s is %v, not %v", briefCursor(c), got, want)
	}
}

// 0 +  1 (  2 -{  3 a  4 {  5 b  6 {  7 c  8 &x {  9 d  10 &y {  11 e  12 f  13 }  14 }  15 }  16 }  17 g  18 *x  19 h  20 [  21 [  22 *y  23 ]  24 ]  25 }  26 )  27 =
const curApart = "a: {b: {c: &x {d: &y {e: f}}}}\ng: *x\nh: [[*y]]\n"

// P9: the path of a cursor: of its place, and through one alias and several, at the first place of a replay and at the last.
func TestCurPath(t *testing.T) {
	for _, k := range []struct{ text, at, want string }{
		// No alias was entered: the path of the place.
		{curPlain, "0", "."}, {curPlain, "2", "."}, {curPlain, "3", "i0"}, {curPlain, "4", "i1"}, {curPlain, "6", "i2/i0"}, {curPlain, "8", "i2"}, {curPlain, "10", "."}, {curPlain, "12", "."}, {curFault, "12", "i2/i1/kc"}, {curFault, "9", "i2/i1"}, {curDocs, "1", "."}, {curDocs, "6", "i0"}, {curBehind, "3", "."}, {curBelow, "5", "."}, {"%", "1", "."}, {"", "0", "."}, {"[a, [", "5", "i1"},
		// A text.
		{curPlain, "4>3", "i1"}, {curFault, "6>3", "i1"}, {curWithin, "9>5", "i2"}, {curDocs, "2", "."},
		// A collection: its first place, those in it, its last one.
		{curChain, "8>4", "i2/i0"}, {curChain, "8>5", "i2/i0/i0"}, {curChain, "8>6", "i2/i0"}, {curChain, "11>7", "i3"}, {curChain, "11>8", "i3/i0"}, {curChain, "11>9", "i3/i1"}, {curChain, "11>10", "i3"}, {curWithin, "8>3", "i1"}, {curWithin, "8>4", "i1/n0"}, {curWithin, "8>5", "i1/kk"}, {curWithin, "8>6", "i1/kk"}, {curWithin, "8>7", "i1"}, {curWithin, "9>6", "i2"},
		// As a key, and as the value of a key that is an alias.
		{curWithin, "11", "i3/n0"}, {curWithin, "11>5", "i3/n0"}, {curWithin, "11>6", "i3/n0"}, {curWithin, "12", "i3/k"}, {curWithin, "12>3", "i3/k"}, {curWithin, "12>4", "i3/k/n0"}, {curWithin, "12>5", "i3/k/kk"}, {curWithin, "12>7", "i3/k"},
		// One replay in another.
		{curChain, "8>5>3", "i2/i0/i0"}, {curChain, "11>8>4", "i3/i0"}, {curChain, "11>8>5", "i3/i0/i0"}, {curChain, "11>8>6", "i3/i0"}, {curChain, "11>8>5>3", "i3/i0/i0"},
		{curDeep, "22>20>17>14>11>8>4", "i7/i0/i0/i0/i0/i0"}, {curDeep, "22>20>17>14>11>8>5", "i7/i0/i0/i0/i0/i0/i0"}, {curDeep, "22>20>17>14>11>8>6", "i7/i0/i0/i0/i0/i0"}, {curDeep, "20>17>14>11>8>5>3", "i6/i0/i0/i0/i0/i0/i0"},
		// The node of an alias stands deeper than the alias, or not as deep.
		{curApart, "18>8", "kg"}, {curApart, "18>9", "kg/n0"}, {curApart, "18>10", "kg/kd"}, {curApart, "18>12", "kg/kd/ke"}, {curApart, "18>13", "kg/kd"}, {curApart, "18>14", "kg"}, {curApart, "22>10", "kh/i0/i0"}, {curApart, "22>12", "kh/i0/i0/ke"}, {curApart, "22>13", "kh/i0/i0"},
	} {
		var want []impl.Seg
		if k.want != "." {
			want = segs(strings.Split(k.want, "/")...)
		}
		c := cursorAt(k.text, spotAt(k.at))
		checkCurPath(t, c, want)
		// Marks change nothing.
		c.Marks, c.Last = []impl.Mark{{Id: 1}, {Id: 3, At: 1}}, 4
		checkCurPath(t, c, want)
	}
}

// P9: a cursor that isn't right has no path.
func TestCurPathOfWrongCursors(t *testing.T) {
	for _, k := range []struct{ text, at string }{
		{curPlain, "13"}, {curPlain, "-1"}, {curPlain, fmt.Sprint(lowest)}, {curPlain, fmt.Sprint(highest)}, {curPlain, "4>4"}, {curPlain, "3>3"}, {curPlain, "4>6"}, {curPlain, "4>4>3"}, {curPlain, "-1>3"}, {curPlain, "99>3"},
		{curChain, "8>8"}, {curChain, "5>8>4"}, {curChain, "11>8>5>4"}, {curFault, "6>8"}, {curDeep, "22>20>17>14>11>8>5>3"}, {"", "2"}, {"%", "2"},
	} {
		checkCurPath(t, cursorAt(k.text, spotAt(k.at)), nil)
		c := cursorAt(curPlain, spotAt("6"))
		checkCurPath(t, c, segsIn("i2 i0"))
		c.Marks, c.Last = []impl.Mark{markOf(1, spotAt(k.at))}, 1
		c.Text = k.text
		checkCurPath(t, c, nil)
	}
	for _, alter := range []func(*impl.Cursor){
		func(c *impl.Cursor) { c.Last = -1 },
		func(c *impl.Cursor) { c.Last = impl.MaxNum + 1 },
		func(c *impl.Cursor) { c.Marks = []impl.Mark{{Id: 1}} },
		func(c *impl.Cursor) { c.Marks, c.Last = []impl.Mark{{Id: 2}, {Id: 2}}, 3 },
		func(c *impl.Cursor) { c.Marks, c.Last = make([]impl.Mark, impl.MaxMarks+1), 99 },
		func(c *impl.Cursor) { c.Text = "" },
	} {
		c := cursorAt(curPlain, spotAt("6"))
		alter(&c)
		checkCurPath(t, c, nil)
	}
}

// curPathByRule is the second telling of CurPath, at a spot that is right.
func (s scene) curPathByRule(p spot) []impl.Seg {
	var out []impl.Seg
	known := 0
	for _, at := range append(slices.Clone(p.stack), p.at) {
		out = append(out, pathByRule(s.l, at)[known:]...)
		known = len(pathByRule(s.l, max(s.a.defs[at], 0)))
	}
	return out
}

// checkSpotPaths holds the path at each spot of a stream against the second telling, and against those of the spots around it.
func checkSpotPaths(t *testing.T, text string, met map[string]int) {
	t.Helper()
	s := sceneOf(text)
	s.eachSpot(func(p spot) {
		c := cursorAt(text, p)
		path := impl.CurPath(c)
		if want := s.curPathByRule(p); !slices.Equal(path, want) {
			t.Errorf("CurPath at %s is %v, not %v", briefCursor(c), path, want)
		}
		if len(p.stack) == 0 && !slices.Equal(path, impl.PathOf(s.l, p.at)) {
			t.Errorf("CurPath at %s is %v, PathOf %v", briefCursor(c), path, impl.PathOf(s.l, p.at))
		}
		met[fmt.Sprint("aliases ", len(p.stack))]++
		// Into an alias the path is the same; into a collection it is one step longer, and behind that as it was.
		in, a := impl.CurEnter(c)
		inner := impl.CurPath(in)
		switch {
		case a.Code != 0 || s.l[in.At].Kind == 7 || s.l[in.At].Kind == 10:
		case a.Event.Kind == 6:
			met["alias"]++
			if !slices.Equal(inner, path) {
				t.Errorf("CurPath at %s is %v, and within the alias %v", briefCursor(c), path, inner)
			}
		default:
			met["collection"]++
			if len(inner) != len(path)+1 || !slices.Equal(inner[:len(path)], path) {
				t.Errorf("CurPath at %s is %v, and within the collection %v", briefCursor(c), path, inner)
			}
		}
	})
}

// P3, P9: the path at each spot of streams of all kinds.
func TestCurPathOfManyStreams(t *testing.T) {
	met := map[string]int{}
	for _, text := range append(scenesByHand(), curDeep, curApart, "- &a {x: y}\n- &b {*a : *a}\n- &c [*b, {z: *b}]\n- &d {w: *c}\n- &e [*d]\n- &f {v: [*e]}\n- &g [*f]\n- *g\n") {
		checkSpotPaths(t, text, met)
	}
	eachText([]string{"[", "], ", "&a x, ", "&a {", "*a ", ": *a, ", "}, "}, 4, func(s string) { checkSpotPaths(t, "[&a [x], "+s, met) })
	eachText([]string{"- &a x\n", "- &b [*a]\n", "- &a {*b : y}\n", "- *a\n", "- *b\n", "- ['\n", "---\n"}, 4, func(s string) { checkSpotPaths(t, s, met) })
	writtenStreams(100, 3, func(w *streamScribe) {
		checkSpotPaths(t, w.text, met)
		checkSpotPaths(t, w.text[:len(w.text)*2/3], met)
	})
	wantCounts(t, met, 100, "alias", "collection", "aliases 0", "aliases 1", "aliases 2")
	wantCounts(t, met, 20, "aliases 3", "aliases 4", "aliases 5", "aliases 6")
}

var bareRule = regexp.MustCompile(`^[a-zA-Z_-][a-zA-Z0-9_-]*$`)

// wordByRule is the second telling of one step in PathText.
func wordByRule(s impl.Seg) string {
	switch s.Kind {
	case 1:
		return strconv.Itoa(s.N)
	case 3:
		return fmt.Sprintf("@%d", s.N)
	case 4:
		return "*"
	case 5:
		return "**"
	}
	if bareRule.MatchString(s.Text) {
		return s.Text
	}
	return "'" + strings.Join(strings.Split(s.Text, "'"), "''") + "'"
}

// checkWritten: steps are written so, and read from their text as they were.
func checkWritten(t *testing.T, l []impl.Seg, want string) {
	t.Helper()
	if got := impl.PathText(l); got != want {
		t.Errorf("PathText(%.80q) is %.80q, not %.80q", fmt.Sprint(l), got, want)
	}
	if got, ok := impl.TextPath(want); !ok || !slices.Equal(got, l) {
		t.Errorf("TextPath(%.80q) is %.80q, %v", want, fmt.Sprint(got), ok)
	}
}

// P3, P9: what stands for each kind of a step.
func TestPathText(t *testing.T) {
	checkWritten(t, nil, "/")
	checkWritten(t, []impl.Seg{}, "/")
	for _, c := range []struct{ line, want string }{
		// Each kind, and N at its ends.
		{"i0", "/0"}, {"i7", "/7"}, {"i10", "/10"}, {"i4294967295", "/4294967295"}, {"n0", "/@0"}, {"n12", "/@12"}, {"n4294967295", "/@4294967295"}, {"ka", "/a"}, {"*", "/*"}, {"**", "/**"},
		// Several.
		{"i0 i0", "/0/0"}, {"ka kb kc", "/a/b/c"}, {"ka i1 n2 * ** kb", "/a/1/@2/*/**/b"}, {"** **", "/**/**"}, {"k k", "/''/''"}, {"k' i1", "/''''/1"},
		// Keys that stand bare, and such that don't.
		{"kabc", "/abc"}, {"kA", "/A"}, {"k_", "/_"}, {"k-", "/-"}, {"k-1", "/-1"}, {"ka1", "/a1"}, {"k_0-z", "/_0-z"}, {"k--", "/--"}, {"kaZ09_-", "/aZ09_-"},
		{"k", "/''"}, {"k1", "/'1'"}, {"k0a", "/'0a'"}, {"k9", "/'9'"}, {"k@0", "/'@0'"}, {"k*", "/'*'"}, {"k**", "/'**'"}, {"ka.b", "/'a.b'"}, {"ka*", "/'a*'"}, {"ké", "/'é'"}, {"kaé", "/'aé'"},
		// Quotes and the signs between steps.
		{"k'", "/''''"}, {"k''", "/''''''"}, {"ka'b", "/'a''b'"}, {"k'a", "/'''a'"}, {"ka'", "/'a'''"}, {"k/", "/'/'"}, {"ka/b", "/'a/b'"}, {"k/a", "/'/a'"}, {"ka/", "/'a/'"}, {"k'/'", "/'''/'''"}, {"ka'/b kc", "/'a''/b'/c"}, {"k/ k/", "/'/'/'/'"}, {"k//", "/'//'"},
	} {
		checkWritten(t, segsIn(c.line), c.want)
	}
	checkWritten(t, segs("k ", "ka b", "k\n"), "/' '/'a b'/'\n'")
	checkWritten(t, segs("ka\x00", "k\xff"), "/'a\x00'/'\xff'")
	long := strings.Repeat("ab'/", 20000)
	checkWritten(t, segs("k"+long, "i1"), "/'"+strings.ReplaceAll(long, "'", "''")+"'/1")
	checkWritten(t, segs("k"+strings.Repeat("a", 70000)), "/"+strings.Repeat("a", 70000))
}

// P3, P9: each byte in a key, alone, first, and behind others.
func TestPathTextEveryByte(t *testing.T) {
	for b := range 256 {
		for _, text := range []string{string([]byte{byte(b)}), string([]byte{byte(b), 'a'}), string([]byte{'a', byte(b)}), string([]byte{'a', byte(b), 'a'}), string([]byte{byte(b), byte(b)})} {
			s := impl.Seg{Kind: impl.SgKey, Text: text}
			checkWritten(t, []impl.Seg{s}, "/"+wordByRule(s))
			checkWritten(t, []impl.Seg{s, indexSeg(1), s}, "/"+wordByRule(s)+"/1/"+wordByRule(s))
		}
	}
}

// P9: a step that isn't right, wherever it stands, and too many steps.
func TestPathTextOfNothing(t *testing.T) {
	for _, wrong := range wrongSegs() {
		for _, l := range [][]impl.Seg{{wrong}, append(segsIn("ka i1"), wrong), append([]impl.Seg{wrong}, segsIn("ka i1")...), append([]impl.Seg{indexSeg(0), wrong}, segsIn("* **")...)} {
			if got := impl.PathText(l); got != "" {
				t.Errorf("PathText(%v) is %q", l, got)
			}
		}
	}
	for _, word := range []string{"i0", "ka", "n0", "*", "**", "k", "k/"} {
		l := slices.Repeat(segs(word), impl.MaxSegs+1)
		text := "/" + wordByRule(l[0])
		checkWritten(t, l[:impl.MaxSegs-1], strings.Repeat(text, impl.MaxSegs-1))
		checkWritten(t, l[:impl.MaxSegs], strings.Repeat(text, impl.MaxSegs))
		if got := impl.PathText(l); got != "" {
			t.Errorf("PathText of %d steps is %q", len(l), got)
		}
		checkNoSteps(t, strings.Repeat(text, impl.MaxSegs+1), strings.Repeat(text, impl.MaxSegs+2), strings.Repeat(text, impl.MaxSegs)+"/", strings.Repeat(text, impl.MaxSegs)+"/'")
	}
}

func checkNoSteps(t *testing.T, texts ...string) {
	t.Helper()
	for _, s := range texts {
		if got, ok := impl.TextPath(s); ok || len(got) > 0 {
			t.Errorf("TextPath(%.80q) is %.80q, %v", s, fmt.Sprint(got), ok)
		}
	}
}

// P9: texts that are written for no steps.
func TestTextPathOfNothing(t *testing.T) {
	checkNoSteps(t,
		// No /, and one too many.
		"", " ", "a", "0", "*", "'a b'", "a/b", "//", "///", "/a/", "/0/", "/*/", "/@0/", "/'a b'/", "//a", "/a//b", "/a b", " /a", "/a ", "/ ", "/ a", "/a\n", "\n", "\x00", "/\x00", "\\",
		// Numbers with a 0 first, beyond MaxNum, with something else in them.
		"/00", "/01", "/007", "/4294967296", "/4294967300", "/18446744073709551616", "/"+strings.Repeat("9", 60000), "/1a", "/1_", "/1-", "/+1", "/1.", "/1'", "/0x1", "/-1.0", "/1 ",
		// @ without digits, and with such digits.
		"/@", "/@@", "/@a", "/@00", "/@01", "/@4294967296", "/@-1", "/@+1", "/@ 0", "/@0a", "/@0@", "/@'0'", "/@*", "/0@", "/a@0", "/@/0", "/@"+strings.Repeat("1", 60000),
		// Too many *, and some with something beside them.
		"/***", "/****", "/*a", "/a*", "/**a", "/a**", "/* *", "/*0", "/'*", "/*'", "/*'*'",
		// Quotes that don't end, that end too soon, and what can stand bare.
		"/'", "/'a", "/'a b", "/'''", "/''a", "/''''a", "/'''''", "/'a b'c", "/'a b''", "/'a'b'", "/'a b' ", "/'a b''c", "/a'", "/a'b'", "/a''", "/''/'", "/'/", "/'a/b", "/'a b/c", "/'a b'/'", "/'a b''/c", "/'a'", "/'a'/b", "/b/'a'", "/'_'", "/'-'", "/'-1'", "/'A9'", "/''''''''a", "/'a b'*", "/'a b'@0", "/'a b'0", "/0'a b'", "/'a b''c d", "/\"a\"",
		// Other signs.
		"/.", "/..", "/a.b", "/é", "/aé", "/a\x00", "/\xff", "/a=b", "/[0]", "/a\\b", "/a,b", "/{}", "/$", "/%",
	)
	p, ok := impl.TextPath("/4294967295/@4294967295")
	if !ok || !slices.Equal(p, []impl.Seg{{Kind: 1, N: 4294967295}, {Kind: 3, N: 4294967295}}) {
		t.Errorf("the greatest numbers are %v, %v", p, ok)
	}
}

// shortSteps tells the steps that are written with the given bytes, by their words of at most so many bytes.
func shortSteps(letters []string, most int) map[string]impl.Seg {
	steps := map[string]impl.Seg{"*": {Kind: 4}, "**": {Kind: 5}}
	eachText(letters, most, func(text string) {
		s := impl.Seg{Kind: 2, Text: text}
		steps[wordByRule(s)] = s
		if n, err := strconv.Atoi(text); err == nil && strconv.Itoa(n) == text {
			steps[text] = indexSeg(n)
			steps["@"+text] = impl.Seg{Kind: 3, N: n}
		}
	})
	maps.DeleteFunc(steps, func(word string, _ impl.Seg) bool { return len(word) > most })
	return steps
}

// P3, P9: of all short texts those are read that are written for some steps, and as these.
func TestTextPathOfManyTexts(t *testing.T) {
	letters := strings.Split("/a'01@*", "")
	const most = 7
	words := shortSteps(letters, most-1)
	steps := map[string][]impl.Seg{"/": nil}
	var grow func(text string, l []impl.Seg)
	grow = func(text string, l []impl.Seg) {
		for word, s := range words {
			longer := text + "/" + word
			if len(longer) > most {
				continue
			}
			steps[longer] = append(slices.Clone(l), s)
			grow(longer, steps[longer])
		}
	}
	grow("", nil)
	read := 0
	eachText(letters, most, func(s string) {
		want, right := steps[s]
		got, ok := impl.TextPath(s)
		if ok != right || !slices.Equal(got, want) {
			t.Fatalf("TextPath(%q) is %v, %v, not %v, %v", s, got, ok, want, right)
		}
		if ok {
			read++
			if text := impl.PathText(got); text != s {
				t.Fatalf("TextPath(%q) is %v, which is written %q", s, got, text)
			}
		}
	})
	if read < 1000 || read != len(steps) {
		t.Errorf("%d texts were read, not %d", read, len(steps))
	}
}

// stepsByChance has steps with numbers and keys of all kinds.
func stepsByChance(r *rand.Rand, n int) []impl.Seg {
	var l []impl.Seg
	for range n {
		s := impl.Seg{Kind: 1 + r.IntN(5)}
		switch s.Kind {
		case 1, 3:
			s.N = r.IntN(1 << r.IntN(33))
		case 2:
			for range r.IntN(5) {
				s.Text += []string{"a", "Z", "_", "-", "0", "'", "/", "*", "@", " ", "é", "\n", "\xff"}[r.IntN(13)]
			}
		}
		l = append(l, s)
	}
	return l
}

// P3: steps are read from their text as they were, and a text that is altered isn't read as something that is written otherwise.
func TestSteps(t *testing.T) {
	r := chance(18)
	for range 20000 {
		l := stepsByChance(r, r.IntN(8))
		text := ""
		for _, s := range l {
			text += "/" + wordByRule(s)
		}
		if len(l) == 0 {
			text = "/"
		}
		checkWritten(t, l, text)
		at := r.IntN(len(text))
		altered := text[:at] + []string{"", "/", "'", "''", "a", "0", "@", "*"}[r.IntN(8)] + text[at+r.IntN(2):]
		if got, ok := impl.TextPath(altered); ok && impl.PathText(got) != altered || !ok && len(got) > 0 {
			t.Errorf("TextPath(%q) is %v, %v, which is written %q", altered, got, ok, impl.PathText(got))
		}
	}
}

func checkMatch(t *testing.T, p, l []impl.Seg, want bool) {
	t.Helper()
	if got := impl.Match(p, l); got != want {
		t.Errorf("Match(%.80q, %.80q) is %v", fmt.Sprint(p), fmt.Sprint(l), got)
	}
}

// checkMatches asks for each path of a line; a dot is the empty one.
func checkMatches(t *testing.T, p []impl.Seg, line string, want bool) {
	t.Helper()
	if line == "" {
		return
	}
	for _, path := range strings.Split(line, ";") {
		checkMatch(t, p, segsIn(strings.TrimPrefix(path, ".")), want)
	}
}

// P9: which paths a pattern tells.
func TestMatch(t *testing.T) {
	for _, c := range []struct{ p, yes, no string }{
		// An empty pattern, and an empty path.
		{"", ".", "ka;i0;*;**"}, {"ka", "ka", ".;kb;ka ka"}, {"*", "", ".;ka ka"}, {"**", ".;ka;ka i0;n0 ka i1", ""}, {"** **", ".;ka;ka i0", ""}, {"* **", "ka;i0 ka", "."}, {"** *", "ka;i0 ka", "."},
		// Step by step the same: its Kind, its N, its Text.
		{"i0", "i0", "i1;n0;k0;ka;k;*;**;i0 i0"}, {"n0", "n0", "n1;i0;k0;k;*"}, {"k0", "k0", "i0;n0;k;k00"}, {"k", "k", "i0;n0;ka;*"}, {"ka i1 n2", "ka i1 n2", "ka i1;i1 n2;ka i1 n1;ka i2 n2;kb i1 n2;n2 i1 ka;ka i1 n2 i0;ka ka i1 n2"},
		// SgAny at each place is one step, of any kind.
		{"*", "i0;i9;k;ka;n0;n3;*;**", ".;i0 i0"}, {"* kb kc", "ka kb kc;i0 kb kc;n0 kb kc", "kb kc;ka ka kb kc;ka kb;ka kb kd;ka i0 kc"}, {"ka * kc", "ka kb kc;ka i0 kc", "ka kc;ka kb kb kc;kb kb kc;ka kb kb"}, {"ka kb *", "ka kb kc;ka kb n0", "ka kb;ka kb kc kc;ka kc kc;kb kb kc"}, {"* *", "ka kb;i0 n0", ".;ka;ka kb kc"},
		// SgDeep at the beginning, in the middle, at the end.
		{"** kb", "kb;ka kb;kb kb;i0 n0 kb;kb ka kb", ".;ka;kb ka;ka ka"}, {"ka ** kb", "ka kb;ka kc kb;ka i0 n0 kb;ka ka kb;ka kb kb;ka kb ka kb", ".;ka;kb;kb kb;ka kb ka;kc ka kb"}, {"ka **", "ka;ka kb;ka i0 n0 kb;ka ka", ".;kb;kb ka;i0 ka"}, {"ka ** ka", "ka ka;ka kb ka;ka ka ka", ".;ka;ka kb;kb ka"},
		// Several, also one behind the other.
		{"** kb **", "kb;ka kb;kb ka;ka kb kc;kb kb", ".;ka;ka kc i0"}, {"** ka ** kb **", "ka kb;kc ka kc kb kc;ka ka kb;kb ka kb", ".;ka;kb;kb ka;kb kb ka ka"}, {"ka ** ** kb", "ka kb;ka kc kb;ka kc kc kb", "ka;kb;ka kc"}, {"** ka ** ka", "ka ka;ka kb ka;kb ka kb ka", ".;ka;kb ka;ka ka kb"}, {"ka ** kb ** kc", "ka kb kc;ka i0 kb i1 kc;ka kb kc kb kc;ka kb kb kc kc", "ka kc;ka kc kb;ka kc kb kb;kb ka kc;ka kb kc ka"},
		{"** ka kb ** ka kb", "ka kb ka kb;ka kb kb ka kb;ka ka kb ka kb", "ka kb;ka kb kb;ka kb ka ka kb kb;ka kb ka"}, {"** ka kb ** kc", "ka ka kb kc;ka kc ka kb kc", "ka kc kb kc;ka ka kc"},
		// Both: as many as SgAny there must be at least.
		{"** * kb", "ka kb;kb kb;i0 i0 kb", ".;kb;kb ka"}, {"* ** kb", "ka kb;kb kb;i0 i0 kb", ".;kb;kb ka"}, {"ka * ** * kb", "ka i0 i0 kb;ka i0 i0 i0 kb;ka ka kb kb", "ka kb;ka i0 kb"}, {"** * ** *", "ka kb;i0 i0 i0", ".;ka"}, {"** * kb **", "ka kb;kb kb kb;ka ka kb kc", ".;kb;kb ka;kb ka ka"}, {"** ka * kc **", "ka kb kc;ka ka ka kc;ka ka i0 kc ka", "ka kc;ka kc kb;ka i0 i0 kc"},
		// In a path they are steps like others.
		{"ka", "", "*;**;ka **"}, {"** kb", "* kb;** kb", "kb **"}, {"* *", "* **;ka **", "**"}, {"i0 **", "i0 **;i0 * **", "** i0"},
	} {
		checkMatches(t, segsIn(c.p), c.yes, true)
		checkMatches(t, segsIn(c.p), c.no, false)
	}
}

// P9: a step that isn't right, in the pattern and in the path, wherever it stands.
func TestMatchOfWrongSteps(t *testing.T) {
	for _, wrong := range wrongSegs() {
		w := []impl.Seg{wrong}
		for _, right := range []string{"", "ka", "*", "**", "ka i0", "** ka"} {
			l := segsIn(right)
			for _, with := range [][]impl.Seg{slices.Concat(w, l), slices.Concat(l, w), slices.Concat(l, w, l)} {
				checkMatch(t, with, with, false)
				checkMatch(t, with, slices.Repeat(segs("ka"), len(with)), false)
				checkMatch(t, segs("**"), with, false)
				checkMatch(t, slices.Repeat(segs("*"), len(with)), with, false)
				checkMatch(t, append(with, segs("**")...), with, false)
				checkMatch(t, append(segs("**"), with...), segsIn("ka i0"), false)
				checkMatch(t, with, nil, false)
				checkMatch(t, nil, with, false)
			}
		}
	}
	// Where nothing behind the first step needs to be asked.
	checkMatch(t, append(segsIn("kb"), impl.Seg{}), segsIn("ka ka"), false)
	checkMatch(t, segsIn("**"), append(segsIn("ka"), impl.Seg{Kind: 2, N: 1}), false)
}

// matchByRule tries for each SgDeep all that it could be.
func matchByRule(p, l []impl.Seg) bool {
	switch {
	case len(p) == 0:
		return len(l) == 0
	case p[0].Kind == 5:
		return matchByRule(p[1:], l) || len(l) > 0 && matchByRule(p, l[1:])
	}
	return len(l) > 0 && (p[0].Kind == 4 || p[0] == l[0]) && matchByRule(p[1:], l[1:])
}

// P9: all short patterns and paths, by the rule.
func TestMatchOfManySteps(t *testing.T) {
	counts := map[bool]int{}
	var paths, patterns [][]impl.Seg
	eachList(segsIn("ka i0 n0 * **"), 4, func(l []impl.Seg) { patterns = append(patterns, l) })
	eachList(segsIn("ka i0 n0"), 5, func(l []impl.Seg) { paths = append(paths, l) })
	paths = append(paths, patterns...)
	for _, p := range patterns {
		for _, l := range paths {
			want := matchByRule(p, l)
			if got := impl.Match(p, l); got != want {
				t.Fatalf("Match(%v, %v) is %v", p, l, got)
			}
			counts[want]++
		}
	}
	// Longer ones of fewer kinds of steps.
	patterns, paths = nil, nil
	eachList(segsIn("ka * **"), 6, func(l []impl.Seg) { patterns = append(patterns, l) })
	eachList(segsIn("ka kb"), 6, func(l []impl.Seg) { paths = append(paths, l) })
	for _, p := range patterns {
		for _, l := range paths {
			want := matchByRule(p, l)
			if got := impl.Match(p, l); got != want {
				t.Fatalf("Match(%v, %v) is %v", p, l, got)
			}
			counts[want]++
		}
	}
	if counts[true] < 10000 || counts[false] < 10000 {
		t.Errorf("they matched, and didn't, %v times", counts)
	}
}

// P9: longer ones by chance: with a letter for each step, a pattern is a regular expression.
func TestMatchByChance(t *testing.T) {
	counts := map[bool]int{}
	r := chance(19)
	for range 20000 {
		var p, l []impl.Seg
		rule, word := "^", ""
		for range r.IntN(12) {
			k := r.IntN(5)
			p = append(p, segsIn("ka i0 * ** **")[k])
			rule += []string{"a", "0", ".", ".*", ".*"}[k]
		}
		for range r.IntN(30) {
			k := r.IntN(9) / 4
			l = append(l, segsIn("ka i0 n0")[k])
			word += []string{"a", "0", "@"}[k]
		}
		want := regexp.MustCompile(rule + "$").MatchString(word)
		checkMatch(t, p, l, want)
		counts[want]++
	}
	if counts[true] < 2000 || counts[false] < 2000 {
		t.Errorf("they matched, and didn't, %v times", counts)
	}
}

// checkTellsItself: a path is told by itself, by as many steps of any kind and by any steps, and not by one more nor by one less.
func checkTellsItself(t *testing.T, l []impl.Seg) {
	t.Helper()
	deep, anyOnes := segs("**"), slices.Repeat(segs("*"), len(l))
	checkMatch(t, l, l, true)
	checkMatch(t, anyOnes, l, true)
	checkMatch(t, deep, l, true)
	for i := range len(l) + 1 {
		// One more, and any steps, at each place.
		for _, more := range append(segsIn("* i0 ka"), l...) {
			checkMatch(t, slices.Insert(slices.Clone(anyOnes), i, more), l, false)
			if more.Kind != 4 && more.Kind != 5 {
				checkMatch(t, slices.Insert(slices.Clone(l), i, more), l, false)
			}
		}
		checkMatch(t, slices.Insert(slices.Clone(l), i, deep[0]), l, true)
		checkMatch(t, slices.Concat(l[:i], deep), l, true)
		checkMatch(t, slices.Concat(deep, l[i:]), l, true)
		if i < len(l) {
			checkMatch(t, slices.Delete(slices.Clone(l), i, i+1), l, false)
			checkMatch(t, slices.Delete(slices.Clone(anyOnes), i, i+1), l, false)
			other := slices.Clone(l)
			other[i].N, other[i].Kind = other[i].N+1, 1
			checkMatch(t, other, l, false)
			other[i] = segs("*")[0]
			checkMatch(t, other, l, true)
		}
	}
}

// P3: so it is with the path of each place of streams of all kinds.
func TestPathsAreTold(t *testing.T) {
	lengths := map[int]int{}
	check := func(text string) {
		s := sceneOf(text)
		s.eachSpot(func(p spot) {
			l := impl.CurPath(cursorAt(text, p))
			checkTellsItself(t, l)
			// And by what is read from its text.
			read, ok := impl.TextPath(impl.PathText(l))
			if !ok || !slices.Equal(read, l) || !impl.Match(read, l) {
				t.Errorf("%v is read from its text as %v, %v", l, read, ok)
			}
			lengths[min(len(l), 5)]++
		})
	}
	for _, text := range append(scenesByHand(), curDeep, curApart) {
		check(text)
	}
	writtenStreams(60, 3, func(w *streamScribe) { check(w.text) })
	wantCodes(t, lengths, 0, 1, 2, 3, 5)
	r := chance(20)
	for range 2000 {
		l := stepsByChance(r, r.IntN(6))
		checkTellsItself(t, slices.DeleteFunc(l, func(s impl.Seg) bool { return s.Kind > 3 }))
	}
}

// P3: a path isn't told by that of what is within it, nor the other way round.
func TestPathsOfMembersAreOthers(t *testing.T) {
	for _, text := range append(scenesByHand(), curDeep, curApart) {
		l := impl.Parse(text)
		for i := range l {
			path := impl.PathOf(l, i)
			for _, k := range impl.KidsOf(l, i) {
				in := impl.PathOf(l, k)
				checkMatch(t, path, in, false)
				checkMatch(t, in, path, false)
				checkMatch(t, append(slices.Clone(path), segs("*")...), in, true)
				checkMatch(t, append(slices.Clone(path), segs("**")...), in, true)
			}
		}
	}
}

// P9: through replays a path can have more steps than may be written.
func TestLongPaths(t *testing.T) {
	deep := func(within string) string { return strings.Repeat("[", 35) + within + strings.Repeat("]", 35) }
	text := "- &a " + deep("x") + "\n- &b " + deep("*a") + "\n- *b\n"
	l := impl.Parse(text)
	last := len(l) - 4
	alias := slices.IndexFunc(l, func(e impl.Event) bool { return e.Kind == impl.EvAlias })
	c := cursorAt(text, spot{3 + 35, []int{last, alias}})
	path := append(segs("i2"), slices.Repeat(segs("i0"), 70)...)
	checkCurPath(t, c, path)
	c.At -= 11
	checkCurPath(t, c, path[:60])
	checkWritten(t, path[:60], "/2"+strings.Repeat("/0", 59))
	c.At++
	checkCurPath(t, c, path[:61])
	if got := impl.PathText(path[:61]); got != "" {
		t.Errorf("PathText of 61 steps is %q", got)
	}
	checkTellsItself(t, path)
}

// wallOfSegs puts something behind a list of steps, so that what is written there shows.
func wallOfSegs(l []impl.Seg) []impl.Seg {
	return append(slices.Clone(l), impl.Seg{Kind: 77}, impl.Seg{Kind: 78})[:len(l)]
}

func segsWallStands(l []impl.Seg) bool {
	return slices.Equal(l[len(l):len(l)+2], []impl.Seg{{Kind: 77}, {Kind: 78}})
}

// Chapter 1: what is handed in isn't changed, nor what stands behind it.
func TestPathsLeaveWhatIsHandedIn(t *testing.T) {
	for _, letters := range append(notNested(), "sz", "sdqAaexz", "sdmvqveexdQexz", "sdqqqf", "sdmAaqAaeBqf") {
		l := nestOf(letters)
		whole := append(slices.Clone(l), impl.Event{Kind: 77}, impl.Event{Kind: 78})
		part := whole[:len(l)]
		for i := -1; i <= len(l); i++ {
			impl.PathOf(part, i)
			impl.KeyText(part, i)
		}
		if !slices.Equal(part, l) || whole[len(l)].Kind != 77 || whole[len(l)+1].Kind != 78 {
			t.Errorf("the events of %q were changed", letters)
		}
	}
	for _, c := range cursorsToKeep() {
		given := walledCursor(c)
		if impl.CurPath(given); !alikeCursors(given, c) || !cursorWallStands(given) {
			t.Errorf("CurPath changed %s into %s", briefCursor(c), briefCursor(given))
		}
	}
	for _, p := range []string{"", "ka", "** i0 **", "ka ** * n0", "k' i1"} {
		for _, l := range []string{"", "ka", "ka i0 n0", "i0 i0 i0 n0 n0"} {
			given, path := wallOfSegs(segsIn(p)), wallOfSegs(segsIn(l))
			impl.Match(given, path)
			impl.PathText(given)
			impl.PathText(path)
			if !slices.Equal(given, segsIn(p)) || !slices.Equal(path, segsIn(l)) || !segsWallStands(given) || !segsWallStands(path) {
				t.Errorf("%q and %q were changed", p, l)
			}
		}
	}
}

// Chapter 1: an answer hangs on the arguments alone; a later call doesn't change it, nor does writing into another or into what was handed in.
func TestPathsKeepNothing(t *testing.T) {
	l := impl.Parse(curApart)
	cursor := cursorAt(curApart, spotAt("22>12"))
	asks := map[string]func() []impl.Seg{
		"PathOf":   func() []impl.Seg { return impl.PathOf(l, 22) },
		"TextPath": func() []impl.Seg { p, _ := impl.TextPath("/h/0/0/e/'a b'"); return p },
		"CurPath":  func() []impl.Seg { return impl.CurPath(cursor) },
	}
	want := map[string][]impl.Seg{"PathOf": segsIn("kh i0 i0"), "TextPath": segs("kh", "i0", "i0", "ke", "ka b"), "CurPath": segsIn("kh i0 i0 ke")}
	first := map[string][]impl.Seg{}
	for name, ask := range asks {
		first[name] = ask()
	}
	for range 3 {
		for name, ask := range asks {
			got := ask()
			if !slices.Equal(got, want[name]) {
				t.Errorf("%s answers %v, not %v", name, got, want[name])
			}
			whole := got[:cap(got)]
			for i := range whole {
				whole[i] = impl.Seg{Kind: 77}
			}
		}
	}
	for i := range l {
		l[i] = impl.Event{Kind: 77}
	}
	spoilCursor(cursor)
	for name := range asks {
		if !slices.Equal(first[name], want[name]) {
			t.Errorf("what %s answered is now %v, not %v", name, first[name], want[name])
		}
	}
	// What was asked ahead of it doesn't change an answer.
	for range 3 {
		for _, text := range []string{curPlain, "- a\n- b\n", "%", "{a: b}"} {
			l, other := impl.Parse(text), impl.Parse(curChain)
			for i := range l {
				want := impl.PathOf(slices.Clone(l), i)
				impl.PathOf(other, min(i, len(other)-1))
				impl.KeyText(other, 5)
				impl.CurPath(impl.CurOpen(curApart))
				if got := impl.PathOf(l, i); !slices.Equal(got, want) || !slices.Equal(got, pathByRule(l, i)) {
					t.Errorf("of %q the path of place %d is then %v, not %v", text, i, got, want)
				}
			}
		}
	}
	p, path := segsIn("ka ** i0"), segsIn("ka kb i0")
	checkMatch(t, p, path, true)
	path[2].N = 1
	checkMatch(t, p, path, false)
	p[2].N = 1
	checkMatch(t, p, path, true)
}

// Every call ends, in time, also for great lists, long paths and patterns that don't tell them.
func TestGreatPaths(t *testing.T) {
	const n = 60000
	many := func(word string) []impl.Seg { return slices.Repeat(segs(word), n) }
	long := many("ka")
	for _, c := range []struct {
		p    []impl.Seg
		want bool
	}{
		{many("**"), true}, {append(many("**"), segs("kb")...), false}, {slices.Repeat(segsIn("** ka"), n), true}, {slices.Repeat(segsIn("** ka"), n+1), false}, {append(slices.Repeat(segsIn("** ka"), n-1), segs("kb")...), false}, {slices.Repeat(segsIn("** *"), n), true}, {slices.Repeat(segsIn("* **"), n+1), false},
		{append(slices.Repeat(segsIn("** ka * **"), n/2-1), segsIn("kb **")...), false}, {slices.Concat(segs("**"), many("ka")[:100], segsIn("kb **")), false}, {slices.Concat(slices.Repeat(segsIn("** ka ka ka"), n/6), segsIn("kb ** ka")), false}, {many("*"), true}, {append(many("*"), segs("*")...), false}, {long, true}, {long[1:], false},
	} {
		checkMatch(t, c.p, long, c.want)
	}
	checkMatch(t, slices.Repeat(segsIn("** ka"), 30), slices.Repeat(segsIn("ka ka kb"), 20), false)
	checkMatch(t, slices.Repeat(segsIn("** * ka"), 30), slices.Repeat(segsIn("ka kb"), 30)[:59], false)
	if got := impl.PathText(long); got != "" {
		t.Errorf("PathText of %d steps is %.30q", n, got)
	}
	checkNoSteps(t, strings.Repeat("/", n), strings.Repeat("/a", n), strings.Repeat("/'", n), "/'"+strings.Repeat("'", 2*n), strings.Repeat("'/", n), "/"+strings.Repeat("0", n), "/"+strings.Repeat("*", n))
	checkGreatNests(t, n)
}

// checkGreatNests asks for places in deep lists and in long ones.
func checkGreatNests(t *testing.T, n int) {
	t.Helper()
	many := func(s string) string { return strings.Repeat(s, n) }
	deep := slices.Repeat(segs("i0"), n)
	for _, c := range []struct {
		letters string
		i       int
		want    []impl.Seg
	}{
		{"sd" + many("q") + many("e") + "xz", n + 1, deep[1:]}, {"sd" + many("q") + many("e") + "xz", n + 2, deep[1:]}, {"sd" + many("q") + many("e") + "xz", 2*n + 1, nil}, {"sd" + many("q") + "Af", n + 2, deep}, {"sd" + many("q") + "f", n + 2, deep[1:]},
		{"sdq" + many("v") + "exz", n + 2, []impl.Seg{indexSeg(n - 1)}}, {"sdmA" + many("qeA") + "vexz", 3*n + 1, []impl.Seg{{Kind: 2, Text: "x"}}}, {"sdmA" + many("vA") + "f", 2*n + 4, []impl.Seg{{Kind: 3, N: n}}}, {"sdqA" + many("a") + "maveexz", n + 6, []impl.Seg{indexSeg(n + 1), {Kind: 2, Text: "x"}}},
	} {
		if got := impl.PathOf(nestOf(c.letters), c.i); !slices.Equal(got, c.want) {
			t.Errorf("of %.20q.. the path of place %d has %d steps, not %d: %.60q", c.letters, c.i, len(got), len(c.want), fmt.Sprint(got))
		}
	}
	text := "- &a {k: x}\n" + strings.Repeat("- *a\n", (impl.MaxText-20)/5)
	last := len(impl.Parse(text)) - 4
	checkCurPath(t, cursorAt(text, spot{5, []int{last}}), []impl.Seg{indexSeg(last - 6), {Kind: 2, Text: "k"}})
}
