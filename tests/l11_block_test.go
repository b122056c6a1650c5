package tests

import (
	"fmt"
	"math/rand/v2"
	"strings"
	"testing"

	"loop.example/g00666/impl"
)

// keyOf is what KeyAt answers.
type keyOf struct {
	end, colon int
	ok         bool
}

func keyAt(s string, p int) keyOf {
	end, colon, ok := impl.KeyAt(s, p)
	return keyOf{end, colon, ok}
}

var noKey = keyOf{}

func keyCase(end, colon int) keyOf {
	return keyOf{end, colon, true}
}

type keyWanted struct {
	s    string
	want keyOf
}

func checkKeys(t *testing.T, l []keyWanted) {
	t.Helper()
	for _, c := range l {
		if got := keyAt(c.s, 0); got != c.want {
			t.Errorf("KeyAt(%.40q, 0) is %v, not %v", c.s, got, c.want)
		}
	}
}

// P9: plain keys, and the colon behind them.
func TestPlainKeys(t *testing.T) {
	checkKeys(t, []keyWanted{
		{"a: b", keyCase(1, 1)}, {"a b : c", keyCase(3, 4)}, {"a b c: d", keyCase(5, 5)}, {"a: b: c", keyCase(1, 1)}, {"a:b: c", keyCase(3, 3)}, {"a#: b", keyCase(2, 2)}, {"a, [b]: c", keyCase(6, 6)}, {"a{}: b", keyCase(3, 3)}, {"a'b': c", keyCase(4, 4)}, {"a*: b", keyCase(2, 2)}, {"a&!|>: b", keyCase(5, 5)},
		// White ahead of the colon.
		{"a : b", keyCase(1, 2)}, {"a \t : b", keyCase(1, 4)}, {"a\t: b", keyCase(1, 2)}, {"a   :", keyCase(1, 4)}, {"a  : : b", keyCase(1, 3)},
		// A gap behind the colon, and none.
		{"a:", keyCase(1, 1)}, {"a:\n", keyCase(1, 1)}, {"a:\nb", keyCase(1, 1)}, {"a:\tb", keyCase(1, 1)}, {"a: ", keyCase(1, 1)}, {"a :", keyCase(1, 2)}, {"a: # r", keyCase(1, 1)},
		{"a:b", noKey}, {"a :b", noKey}, {"a:,", noKey}, {"a:[]", noKey}, {"a:#", noKey}, {"a:'b'", noKey}, {"a:\x00", noKey}, {"a:\r", noKey}, {"a:{", noKey}, {"a::b", noKey}, {"a::", keyCase(2, 2)}, {"a:: b", keyCase(2, 2)},
		// No colon on its line.
		{"a", noKey}, {"a b", noKey}, {"a\n", noKey}, {"a\n: b", noKey}, {"a\nb: c", noKey}, {"a #: b", noKey}, {"a # b: c", noKey}, {"a\t#:", noKey}, {"a ", noKey},
		// What a plain scalar may begin with.
		{"-a: b", keyCase(2, 2)}, {"--: b", keyCase(2, 2)}, {"?a: b", keyCase(2, 2)}, {":a: b", keyCase(2, 2)}, {"::", keyCase(1, 1)}, {":: a", keyCase(1, 1)}, {"-:", keyCase(1, 1)}, {"-: a", keyCase(1, 1)}, {"?: a", keyCase(1, 1)}, {"-[]: a", keyCase(3, 3)},
		{"---: a", keyCase(3, 3)}, {"--- : a", keyCase(3, 4)}, {"...: a", keyCase(3, 3)}, {"<<: a", keyCase(2, 2)}, {"~: a", keyCase(1, 1)}, {"=: a", keyCase(1, 1)},
	})
}

// P9: where no scalar begins there is no key, whatever stands behind.
func TestNoKeys(t *testing.T) {
	for _, first := range []string{" ", "\t", "\n", "- ", "-\n", "-\t", "? ", "?\n", ": ", ":\n", ",", "[", "]", "{", "}", "#", "&", "!", "|", ">", "%", "@", "`", "- - ", "&a ", "!t ", "[]", "{}", "| ", "# "} {
		for _, behind := range []string{"", ":", ": ", ": b", "a: b", " : b", "a : b", "'a': b"} {
			checkKeys(t, []keyWanted{{first + behind, noKey}})
		}
	}
	checkKeys(t, []keyWanted{{"", noKey}, {":", noKey}, {"-", noKey}, {"?", noKey}, {": b", noKey}, {" : b", noKey}})
}

// P9: aliases as keys: the name has all that is up to a gap or a flow sign, and only its length is asked.
func TestAliasKeys(t *testing.T) {
	name := strings.Repeat("x", 60)
	checkKeys(t, []keyWanted{
		{"*a : b", keyCase(2, 3)}, {"*a :", keyCase(2, 3)}, {"*a\t:\n", keyCase(2, 3)}, {"*a  \t: b", keyCase(2, 5)}, {"*a: : b", keyCase(3, 4)}, {"*: : b", keyCase(2, 3)}, {"** : a", keyCase(2, 3)}, {"*'a' : b", keyCase(4, 5)}, {"*# : a", keyCase(2, 3)},
		{"*a: b", noKey}, {"*a:", noKey}, {"*a", noKey}, {"*a b", noKey}, {"*a :b", noKey}, {"*a\n: b", noKey}, {"* : b", noKey}, {"*", noKey}, {"*:", noKey}, {"*: a", noKey}, {"*\t: a", noKey}, {"*a[ : b", noKey}, {"*a, : b", noKey}, {"*[] : b", noKey}, {"*a b : c", noKey}, {"*a #: b", noKey}, {"&a : b", noKey}, {"& : b", noKey},
		{"*" + name + " : b", keyCase(61, 62)}, {"*" + name + "x : b", noKey},
	})
}

// P9: scalars in quotes as keys: closed on their line, and without a fault.
func TestQuotedKeys(t *testing.T) {
	checkKeys(t, []keyWanted{
		{"'a': b", keyCase(3, 3)}, {"'a' : b", keyCase(3, 4)}, {"'a'\t \t: b", keyCase(3, 6)}, {"'a':", keyCase(3, 3)}, {"'a':\n", keyCase(3, 3)}, {"'': a", keyCase(2, 2)}, {"'it''s': b", keyCase(7, 7)}, {"'''': b", keyCase(4, 4)}, {"'a: b': c", keyCase(6, 6)}, {"'a': 'b': c", keyCase(3, 3)}, {"' a ': b", keyCase(5, 5)}, {"'# [*&': b", keyCase(7, 7)}, {"'\"': b", keyCase(3, 3)}, {`'\': b`, keyCase(3, 3)},
		{"'a':b", noKey}, {"'a'", noKey}, {"'a' b", noKey}, {"'a'b: c", noKey}, {"'a'\n: b", noKey}, {"'a' #: b", noKey}, {"'a'# : b", noKey}, {"'a", noKey}, {"'a: b", noKey}, {"'", noKey}, {"': b", noKey}, {"'a'': b", noKey}, {"'a'''", noKey},
		{"'a\nb': c", noKey}, {"'\n': c", noKey}, {"'a\n\n': c", noKey}, {"'a\n---\n': c", noKey}, {"'a''\n': b", noKey}, {"'a'\n'b': c", noKey}, {"'a\n: b", noKey},
		{`"a": b`, keyCase(3, 3)}, {`"a" : b`, keyCase(3, 4)}, {`"":`, keyCase(2, 2)}, {`"a\"": b`, keyCase(5, 5)}, {`"\n": a`, keyCase(4, 4)}, {`"\\": a`, keyCase(4, 4)}, {`"\x41": a`, keyCase(6, 6)}, {`"a: b": c`, keyCase(6, 6)}, {`"'": b`, keyCase(3, 3)}, {"\"\\\t\": b", keyCase(4, 4)},
		{`"a":b`, noKey}, {`"a"`, noKey}, {`"a" b`, noKey}, {`"a`, noKey}, {`"a: b`, noKey}, {`"\": a`, noKey}, {`"\q": a`, noKey}, {`"\x4": a`, noKey}, {`"\`, noKey}, {`"\ud800": a`, noKey}, {`"a"": b`, noKey},
		{"\"a\nb\": c", noKey}, {"\"a\\\nb\": c", noKey}, {"\"a\\\n\": c", noKey}, {"\"\\x4\n1\": c", noKey}, {"\"a\n...\n\": c", noKey}, {"\"a\n\\q\": c", noKey}, {"\"a\"\n\"b\": c", noKey},
	})
}

// P9: a key has at most 1000 bytes, its quotes counted; what is between it and the colon isn't part of it.
func TestLongKeys(t *testing.T) {
	a := func(n int) string { return strings.Repeat("a", n) }
	white := strings.Repeat(" ", 3000)
	checkKeys(t, []keyWanted{
		{a(1000) + ": b", keyCase(1000, 1000)}, {a(1001) + ": b", noKey}, {a(999) + ":", keyCase(999, 999)}, {a(5000) + ": b", noKey}, {a(1000) + white + ":", keyCase(1000, 4000)}, {a(1001) + white + ":", noKey}, {"a" + white[:998] + "a: b", keyCase(1000, 1000)}, {"a" + white[:999] + "a: b", noKey},
		{"'" + a(998) + "': b", keyCase(1000, 1000)}, {"'" + a(999) + "': b", noKey}, {"'" + a(996) + "'' : b", noKey}, {"'" + a(996) + "''': b", keyCase(1000, 1000)}, {"'" + a(997) + "''': b", noKey}, {"'" + a(998) + "'" + white + ": b", keyCase(1000, 4000)},
		{`"` + a(998) + `": b`, keyCase(1000, 1000)}, {`"` + a(999) + `": b`, noKey}, {`"` + strings.Repeat(`\x41`, 249) + `bb": c`, keyCase(1000, 1000)}, {`"` + strings.Repeat(`\x41`, 249) + `bbb": c`, noKey},
		{strings.Repeat("\u00e9", 500) + ": b", keyCase(1000, 1000)}, {strings.Repeat("\u00e9", 500) + "a: b", noKey},
	})
	// Only what is from the place on counts.
	s := a(1500) + ": b"
	if keyAt(s, 500) != keyCase(1500, 1500) || keyAt(s, 499) != noKey {
		t.Errorf("KeyAt at 500 and 499 is %v, %v", keyAt(s, 500), keyAt(s, 499))
	}
}

// P9: the place is brought into the text; nothing ahead of it counts, and no gap is gone over.
func TestKeyPlaces(t *testing.T) {
	for _, c := range []struct {
		s    string
		p    int
		want keyOf
	}{
		{"a: b", -1, keyCase(1, 1)}, {"a: b", lowest, keyCase(1, 1)}, {"a: b", 1, noKey}, {"a: b", 2, noKey}, {"a: b", 3, noKey}, {"a: b", 4, noKey}, {"a: b", 5, noKey}, {"a: b", highest, noKey},
		{"x: a: b", 2, noKey}, {"x: a: b", 3, keyCase(4, 4)}, {"abc: d", 1, keyCase(3, 3)}, {"abc: d", 2, keyCase(3, 3)}, {" a: b", 0, noKey}, {" a: b", 1, keyCase(2, 2)}, {"\na: b", 0, noKey}, {"\na: b", 1, keyCase(2, 2)}, {"- a: b", 2, keyCase(3, 3)}, {"# a: b", 2, keyCase(3, 3)},
		{"'a': b", 1, keyCase(3, 3)}, {"'a': b", 2, noKey}, {"x 'a': b", 2, keyCase(5, 5)}, {"x *a : b", 2, keyCase(4, 5)}, {"*a : b", 1, keyCase(2, 3)}, {"'a\nb': c", 3, keyCase(5, 5)}, {"a #b: c", 2, noKey}, {"a #b: c", 3, keyCase(4, 4)},
		{"", 0, noKey}, {"", lowest, noKey}, {"", highest, noKey}, {"a:", 2, noKey}, {"a:", highest, noKey}, {"a: b:", 3, keyCase(4, 4)},
		{"\x00: b", 0, keyCase(1, 1)}, {"\xff: b", 0, keyCase(1, 1)}, {"'\xff\x00': b", 0, keyCase(4, 4)}, {"\"\xe2\x80\": b", 0, keyCase(4, 4)}, {"*\xff : b", 0, keyCase(2, 3)}, {"\r: b", 0, keyCase(1, 1)}, {"\u00a0: b", 0, keyCase(2, 2)}, {"\ufeffa: b", 0, keyCase(4, 4)},
	} {
		if got := keyAt(c.s, c.p); got != c.want {
			t.Errorf("KeyAt(%q, %d) is %v, not %v", c.s, c.p, got, c.want)
		}
	}
}

// keyByRule reads a scalar in quotes whole, and then looks for breaks in it.
func keyByRule(s string, p int) keyOf {
	p = placeByRule(s, p)
	end, quotes := -1, quoteAt{code: 10}
	switch first := s[p:min(p+1, len(s))]; first {
	case "*":
		if x := nameByPattern(s, p); x.ok {
			end = x.end
		}
	case "'":
		quotes = singleByRule(s, p)
	case `"`:
		quotes = doubleByRule(s, p)
	default:
		if plainFirstByRule(s, p, false) {
			end = plainEndByRule(s, p, false)
		}
	}
	if quotes.code == 0 && !strings.Contains(s[p:quotes.place], "\n") {
		end = quotes.place
	}
	if end <= p || end-p > 1000 || !regexpOf(`[ \t]*:(?:[ \t\n]|\z)`).MatchString(s[end:]) {
		return noKey
	}
	return keyCase(end, whiteByRule(s, end))
}

// P9: KeyAt answers by its rule at every place of many texts and outside of them.
func TestKeysOfManyTexts(t *testing.T) {
	seen := map[bool]int{}
	check := func(s string) {
		for p := -1; p <= len(s)+1; p++ {
			got := keyAt(s, p)
			if want := keyByRule(s, p); got != want {
				t.Fatalf("KeyAt(%q, %d) is %v, not %v", s, p, got, want)
			}
			seen[got.ok]++
		}
	}
	eachText([]string{"a", ":", " ", "\n", "'", "*", "#"}, 6, check)
	eachText([]string{`"`, `\`, ":", " ", "\n", "x4"}, 6, check)
	eachText([]string{"- ", "?", "&", "!t ", "[", ",", "a: ", "'", "\t", "\n---\n"}, 4, check)
	for n := 990; n < 1010; n++ {
		for _, s := range []string{"%s: b", "'%s': b", `"%s" : b`, "*%s : b"} {
			check(fmt.Sprintf(s, strings.Repeat("a", n)))
		}
	}
	if seen[true] < 1000 || seen[false] < 1000 {
		t.Errorf("keys and others: %v", seen)
	}
}

func blockAt(s string, p, n int) nodeTold {
	l, place, code := impl.BlockAt(s, p, n)
	return nodeTold{l, place, code}
}

// checkBlocks asks BlockAt at the beginning of each text, of a node that stands deeper than no column.
func checkBlocks(t *testing.T, l []flowCase) {
	t.Helper()
	for _, c := range l {
		if got := blockAt(c.s, 0, -1).brief(); got != c.want {
			t.Errorf("BlockAt(%q, 0, -1) is\n\t%s, not\n\t%s", c.s, got, c.want)
		}
	}
}

// blockCase is a text, a place and a column, and what BlockAt must answer there.
type blockCase struct {
	s    string
	p, n int
	want string
}

func checkBlocksAt(t *testing.T, l []blockCase) {
	t.Helper()
	for _, c := range l {
		if got := blockAt(c.s, c.p, c.n).brief(); got != c.want {
			t.Errorf("BlockAt(%q, %d, %d) is\n\t%s, not\n\t%s", c.s, c.p, c.n, got, c.want)
		}
	}
}

// P9: scalars of each style, flow nodes, maps and lists, one in another.
func TestBlockNodes(t *testing.T) {
	checkBlocks(t, []flowCase{
		// Nodes that stand alone.
		{"a", ":a @1"}, {"a b", ":a_b @3"}, {"'a'", "'a @3"}, {`"a\n"`, "\"a~ @5"}, {"|\n a\n", "|a~ @5"}, {">\n a\n b\n", ">a_b~ @8"}, {"[a, b]", "[ :a :b / @6"}, {"{a: b}", "{ :a :b / @6"}, {"[]", "[ / @2"}, {"a:b", ":a:b @3"}, {"-a", ":-a @2"}, {"a, b]", ":a,_b] @5"}, {"---a", ":---a @4"},
		// Flow signs are part of a plain scalar, also behind its first sign.
		{"-[a]", ":-[a] @4"}, {"?{b}", ":?{b} @4"}, {":,", "::, @2"}, {"- -,", "-[ :-, / @4"}, {"a: :]", "-{ :a ::] / @5"}, {"a: b[c], {d}", "-{ :a :b[c],_{d} / @12"}, {"-[a]: b", "-{ :-[a] :b / @7"},
		// What is behind the node doesn't count, but for what a plain one goes on with.
		{"'a' b", "'a @3"}, {"'a'b", "'a @3"}, {"'a'\n'b'", "'a @3"}, {"[] b", "[ / @2"}, {"[]]", "[ / @2"}, {"a #r", ":a @1"}, {"a\n\tb", ":a_b @4"}, {"a\n---\n", ":a @1"}, {"'a'\n...\n", "'a @3"}, {"a\n# r\nb", ":a @1"}, {"[]\n\tb", "[ / @2"},
		// Maps.
		{"a: b", "-{ :a :b / @4"}, {"a: b\n", "-{ :a :b / @4"}, {"a: b\nc: d\n", "-{ :a :b :c :d / @9"}, {"a : b\nc\t:\td", "-{ :a :b :c :d / @11"}, {"'a': 'b'\n\"c\": \"d\"", "-{ 'a 'b \"c \"d / @17"}, {"a: [b]\nc: {d: e}", "-{ :a [ :b / :c { :d :e / / @16"}, {"a b: c d", "-{ :a_b :c_d / @8"}, {"a:b: c", "-{ :a:b :c / @6"}, {"a: b:c", "-{ :a :b:c / @6"}, {"a:    b   ", "-{ :a :b / @7"},
		// Lists.
		{"- a", "-[ :a / @3"}, {"- a\n- b\n", "-[ :a :b / @7"}, {"-\ta\n-  b", "-[ :a :b / @8"}, {"- 'a'\n- \"b\"\n- [c]\n- {d: e}\n- f", "-[ 'a \"b [ :c / { :d :e / :f / @30"}, {"- -a\n- --", "-[ :-a :-- / @9"},
		// One in another, by lines.
		{"a:\n  b: c\n  d: e\nf: g", "-{ :a -{ :b :c :d :e / :f :g / @21"}, {"a:\n  - b\n  - c\nd: e", "-{ :a -[ :b :c / :d :e / @19"}, {"-\n  - a\n  - b\n- c", "-[ -[ :a :b / :c / @17"}, {"-\n  a: b\n  c: d\n-\n  e: f", "-[ -{ :a :b :c :d / -{ :e :f / / @24"}, {"a:\n b:\n  c:\n   d: e\nf: g", "-{ :a -{ :b -{ :c -{ :d :e / / / :f :g / @24"}, {"-\n -\n  -\n   a", "-[ -[ -[ :a / / / @13"}, {"a:\n b\nc:\n 'd'", "-{ :a :b :c 'd / @13"}, {"-\n a\n-\n [b]", "-[ :a [ :b / / @11"},
		// One in another, on one line.
		{"- - a\n  - b\n- c", "-[ -[ :a :b / :c / @15"}, {"- a: b\n  c: d\n- e: f", "-[ -{ :a :b :c :d / -{ :e :f / / @20"}, {"- - - a", "-[ -[ -[ :a / / / @7"}, {"- - a: b\n    c: d\n  - e\n- f", "-[ -[ -{ :a :b :c :d / :e / :f / @27"}, {"-  -   a:  b\n        c: d", "-[ -[ -{ :a :b_c !8@22"}, {"-  -   a:  b\n       c: d", "-[ -[ -{ :a :b :c :d / / / @24"}, {"-\t-\ta: b\n    c: d", "-[ -[ -{ :a :b :c :d / / / @17"},
		{"- a:\n    - b\n    - c: d\n  e: f", "-[ -{ :a -[ :b -{ :c :d / / :e :f / / @30"}, {"a:\n- b:\n  - c\n  - d\n- e\nf: g", "-{ :a -[ -{ :b -[ :c :d / / :e / :f :g / @28"}, {"- a:\n  - b\n  c: d\n- e", "-[ -{ :a -[ :b / :c :d / :e / @21"},
		// The next thing in a column ends all that are deeper.
		{"a:\n b:\n  - c:\n     d\nf: g", "-{ :a -{ :b -[ -{ :c :d / / / :f :g / @25"}, {"- - - a\n- b", "-[ -[ -[ :a / / :b / @11"}, {"- - - a\n  - b", "-[ -[ -[ :a / :b / / @13"},
	})
}

// P9: gaps between the nodes go over lines and remarks.
func TestBlockGaps(t *testing.T) {
	checkBlocks(t, []flowCase{
		{"\n\n  a", ":a @5"}, {"# r\na: b", "-{ :a :b / @8"}, {" # r\n\n # q\n - a", "-[ :a / @15"}, {"  a: b\n  c: d", "-{ :a :b :c :d / @13"},
		{"a: b # r\n\n# q\n   # p\nc: d # o", "-{ :a :b :c :d / @25"}, {"a: # r\n  # q\n\n  b: c", "-{ :a -{ :b :c / / @20"}, {"a:\n# r\n\n  b # q\n\nc: d", "-{ :a :b :c :d / @21"}, {"- a # r\n# q\n- b", "-[ :a :b / @15"}, {"- # r\n  # q\n  a\n- b", "-[ :a :b / @19"}, {"-\n\n\n a\n\n\n- b", "-[ :a :b / @12"}, {"a: [b # r\n] # q\nc: d", "-{ :a [ :b / :c :d / @20"}, {"a: 'b' # r\nc: d", "-{ :a 'b :c :d / @15"}, {"a: b\n  # r\n # q\nc: d", "-{ :a :b :c :d / @20"}, {"a: b\n\t# r\nc: d", "-{ :a :b :c :d / @14"}, {"a: b\n \t \nc: d\n\t", "-{ :a :b :c :d / @13"},
		// A # with no white ahead of it is no remark.
		{"a: 'b'# r", "-{ :a 'b !8@6"}, {"a: [b]# r", "-{ :a [ :b / !8@6"}, {"a: b# r", "-{ :a :b#_r / @7"}, {"- 'a'#", "-[ 'a !8@5"}, {"a:# r", ":a:#_r @5"}, {"-# r", ":-#_r @4"}, {"a: |# r", "-{ :a !6@4"},
		// A remark ends a plain scalar.
		{"a: b\n # r\n c\nd: e", "-{ :a :b !9@11"}, {"a: b # r\n  c: d", "-{ :a :b !9@11"}, {"- a\n # r\n b", "-[ :a !9@10"}, {"a: # r\n b", "-{ :a :b / @9"},
	})
}

// P9: a stop at once is a fault; behind a node it ends what is open.
func TestBlockStops(t *testing.T) {
	checkBlocks(t, []flowCase{
		{"", "!3@0"}, {" ", "!3@1"}, {"\t", "!3@1"}, {"\n", "!3@1"}, {"# r", "!3@3"}, {" \n\t# r\n ", "!3@8"},
		{"---", "!4@0"}, {"...", "!4@0"}, {"--- a", "!4@0"}, {"...\ta: b", "!4@0"}, {"---\n- a", "!4@0"}, {"\n# r\n---", "!4@5"}, {" ---", ":--- @4"}, {" ... a", ":..._a @6"}, {"\n\n... ", "!4@2"}, {" --- : a", "-{ :--- :a / @8"},
		// These are no marks.
		{"---a: b", "-{ :---a :b / @7"}, {"---: b", "-{ :--- :b / @6"}, {"a: b\n---: c", "-{ :a :b :--- :c / @11"}, {"a: b\n----: c", "-{ :a :b :---- :c / @12"}, {"a: 'b'\n--- c: d", "-{ :a 'b / @6"}, {"-- a", ":--_a @4"}, {"a: --- b", "-{ :a :---_b / @8"}, {"- ---", "-[ :--- / @5"}, {"- ... : a", "-[ -{ :... :a / / @9"}, {"a:\n ---\n", "-{ :a :--- / @7"},
	})
	for _, stop := range []string{"", "\n", "\n\n", "\n# r", " # r\n\n  # q\n", "\n---", "\n...", "\n--- b", "\n...\tb: c", " # r\n---\n- d\n", "\n\n---\n...", "\n  \n  ", "\n\t"} {
		for _, c := range []flowCase{
			{"a: b", "-{ :a :b / @4"}, {"a:\n  b: c", "-{ :a -{ :b :c / / @9"}, {"- a", "-[ :a / @3"}, {"- - a: b", "-[ -[ -{ :a :b / / / @8"}, {"a:\n- b", "-{ :a -[ :b / / @6"}, {"a: 'b'", "-{ :a 'b / @6"}, {"a: [b]", "-{ :a [ :b / / @6"}, {"- {}", "-[ { / / @4"}, {"a", ":a @1"}, {"[]", "[ / @2"},
			// Nothing, at the end of its line.
			{"- a\n- &b", "-[ :a &b: / "}, {"a:", "-{ :a : / "}, {"-", "-[ : / "}, {"a: b\nc:", "-{ :a :b :c : / "}, {"- a\n-", "-[ :a : / "}, {"- a:", "-[ -{ :a : / / "}, {"a:\n  b:", "-{ :a -{ :b : / / "}, {"a:\n-", "-{ :a -[ : / / "}, {"a: &b", "-{ :a &b: / "}, {"- !t &b", "-[ &b<!t>: / "}, {"&a", "&a: "}, {"!t", "<!t>: "},
		} {
			s := c.s + stop
			if !strings.Contains(c.want, "@") {
				line, _, _ := strings.Cut(s[len(c.s):], "\n")
				c.want += fmt.Sprintf("@%d", len(c.s)+len(line))
			}
			checkBlocks(t, []flowCase{{s, c.want}})
		}
	}
}

// P9: a list may be in the column of its key; with one of an outer list behind it, the dash belongs to the outer one.
func TestBlockLooseLists(t *testing.T) {
	checkBlocks(t, []flowCase{
		{"a:\n- b", "-{ :a -[ :b / / @6"}, {"a:\n- b\n- c\nd: e", "-{ :a -[ :b :c / :d :e / @15"}, {"a:\n-\n-\nb:", "-{ :a -[ : : / :b : / @9"}, {"a:\n- b\nc:\n- d", "-{ :a -[ :b / :c -[ :d / / @13"}, {"a:\n\n# r\n- b", "-{ :a -[ :b / / @11"}, {"a: # r\n- b", "-{ :a -[ :b / / @10"}, {"a:\n-\tb", "-{ :a -[ :b / / @6"}, {"a:\n-", "-{ :a -[ : / / @4"},
		{"- a:\n  - b\n- c", "-[ -{ :a -[ :b / / :c / @14"}, {"- a:\n- b", "-[ -{ :a : / :b / @8"}, {"- a:\n  - b\n  c:\n  - d\n- e", "-[ -{ :a -[ :b / :c -[ :d / / :e / @25"}, {"- a:\n - b", "-[ -{ :a : / !9@6"}, {"- a:\n   - b\n- c", "-[ -{ :a -[ :b / / :c / @15"}, {"- - a:\n    - b\n  - c\n- d", "-[ -[ -{ :a -[ :b / / :c / :d / @24"},
		{"a:\n  b:\n  - c\n  d: e\nf: g", "-{ :a -{ :b -[ :c / :d :e / :f :g / @25"}, {"a:\n  b:\n- c", "-{ :a -{ :b : / !10@8"}, {"a:\n- b:\n  - c\n- d", "-{ :a -[ -{ :b -[ :c / / :d / / @17"}, {"a:\n- b:\n- c", "-{ :a -[ -{ :b : / :c / / @11"}, {"a:\n- - b\n- c\nd: e", "-{ :a -[ -[ :b / :c / :d :e / @17"},
		// What isn't a dash in that column is no value.
		{"a:\n-b: c", "-{ :a : :-b :c / @8"}, {"a:\n-b", "-{ :a : !10@3"}, {"a:\n--- b", "-{ :a : / @2"}, {"a:\n[b]", "-{ :a : !10@3"}, {"a:\n'b'", "-{ :a : !10@3"}, {"a:\n|\n b", "-{ :a : !10@3"}, {"a:\n*b", "-{ :a : !10@3"},
		// Only behind a line that is empty behind the colon, and where nothing was told yet.
		{"a: b\n- c", "-{ :a :b !10@5"}, {"a:\n  b\n- c", "-{ :a :b !10@7"}, {"a: &x\n- b", "-{ :a &x: !10@6"}, {"a:\n  &x\n- b", "-{ :a &x-[ :b / / @11"}, {"a:\n !t\n- b\nc: d", "-{ :a <!t>-[ :b / :c :d / @15"}, {"a:\n  &x # r\n\n- b", "-{ :a &x-[ :b / / @16"}, {"a:\n  &x\nb: c", "-{ :a &x: :b :c / @12"}, {"a:\n- b\n- c\n  - d", "-{ :a -[ :b :c_-_d / / @16"}, {"a:\n- 'b'\n  - d", "-{ :a -[ 'b !9@11"}, {"a:\n - b\n- c", "-{ :a -[ :b / !10@8"}, {"a:\n- b\n - c", "-{ :a -[ :b_-_c / / @11"}, {"a:\n- [b]\n - c", "-{ :a -[ [ :b / !9@10"}, {"a:\n- b\n-c", "-{ :a -[ :b / !10@7"},
		// No list is in the column of the dash ahead of it.
		{"-\n- a", "-[ : :a / @5"}, {"- &x\n- a", "-[ &x: :a / @8"}, {"-\n &x\n- a", "-[ &x: :a / @9"}, {"- -\n  - a\n- b", "-[ -[ : :a / :b / @13"},
	})
}

// P9: values and items that are nothing.
func TestBlockNothing(t *testing.T) {
	checkBlocks(t, []flowCase{
		{"a:", "-{ :a : / @2"}, {"a:  ", "-{ :a : / @4"}, {"a: # r", "-{ :a : / @6"}, {"a:\nb:\n", "-{ :a : :b : / @5"}, {"a:\nb: c", "-{ :a : :b :c / @7"}, {"a: b\nc:\n", "-{ :a :b :c : / @7"}, {"a:\n\n\nb:", "-{ :a : :b : / @7"}, {"a:\t\nb:", "-{ :a : :b : / @6"},
		{"-", "-[ : / @1"}, {"-  ", "-[ : / @3"}, {"- # r\n-", "-[ : : / @7"}, {"-\n-\n-\n", "-[ : : : / @5"}, {"-\n- a\n-", "-[ : :a : / @7"}, {"- - -", "-[ -[ -[ : / / / @5"}, {"- -\n-", "-[ -[ : / : / @5"}, {"- -\n  -", "-[ -[ : : / / @7"},
		// Ahead of a lower column.
		{"a:\n  b:\nc: d", "-{ :a -{ :b : / :c :d / @12"}, {"a:\n  -\nb: c", "-{ :a -[ : / :b :c / @11"}, {"- a:\n- b", "-[ -{ :a : / :b / @8"}, {"-\n  -\n- a", "-[ -[ : / :a / @9"}, {" a:\nb: c", "-{ :a : / @3"}, {" -\n- a", "-[ : / @2"}, {"  a:\n b", "-{ :a : / @4"}, {"- a:\n  b:\n- c", "-[ -{ :a : :b : / :c / @13"},
		// Ahead of a column between that of the key and that of what is around it.
		{"a:\n  b:\n c", "-{ :a -{ :b : / !9@9"}, {"- a:\n b", "-[ -{ :a : / !9@6"}, {"-  -\n  a", "-[ -[ : / !9@7"},
	})
}

// P9: outer properties and own ones, of a map and of its key, of a list and of scalars.
func TestBlockProperties(t *testing.T) {
	checkBlocks(t, []flowCase{
		// On the line of a scalar.
		{"&a b", "&a:b @4"}, {"!t b", "<!t>:b @4"}, {"&a !t b", "&a<!t>:b @7"}, {"!t\t&a \t'b'", "&a<!t>'b @10"}, {"&a |\n b", "&a|b~ @7"}, {"!t >\n b", "<!t>>b~ @7"}, {"&a [b]", "&a[ :b / @6"}, {"!t {}", "<!t>{ / @5"}, {"!!str b", "<tag:yaml.org,2002:str>:b @7"}, {"! b", "<!>:b @3"}, {"!<u> b", "<u>:b @6"},
		// Ahead of it.
		{"&a\nb", "&a:b @4"}, {"!t\n\n  # r\n 'b'", "<!t>'b @14"}, {"&a !t # r\n[b]", "&a<!t>[ :b / @13"}, {"&a\n|\n b", "&a|b~ @7"}, {"!t\n>-\n b\n", "<!t>>b @9"}, {"&a \t\n{b: c}", "&a{ :b :c / @11"}, {"!t &a\n\"b\"", "&a<!t>\"b @9"},
		// Of a map, and of its key.
		{"&a\nb: c", "&a-{ :b :c / @7"}, {"&a b: c", "-{ &a:b :c / @7"}, {"&a\n&b c: d", "&a-{ &b:c :d / @10"}, {"!t\n!u c: d", "<!t>-{ <!u>:c :d / @10"}, {"&a !t\n!u &b c: d\ne: f", "&a<!t>-{ &b<!u>:c :d :e :f / @21"}, {"&a\n\n # r\n  !t b: c\n  d: e", "&a-{ <!t>:b :c :d :e / @25"}, {"&a 'b': c", "-{ &a'b :c / @9"}, {"&a\n\"b\": c", "&a-{ \"b :c / @9"}, {"!t # r\nb: c", "<!t>-{ :b :c / @11"}, {"&a b: c\n&d e: f\n!t g: h", "-{ &a:b :c &d:e :f <!t>:g :h / @23"}, {"a: b\n&x !t c: d", "-{ :a :b &x<!t>:c :d / @15"},
		// The column is that of the first of the own ones.
		{"  &a   b: c\n  d: e", "-{ &a:b :c :d :e / @18"}, {"&a b: c\n   d: e", "-{ &a:b :c_d !8@12"}, {"&a b: 'c'\n   d: e", "-{ &a:b 'c !9@13"}, {"- &a b: c\n  d: e", "-[ -{ &a:b :c :d :e / / @16"}, {"- !t  &a b: c\n  d: e", "-[ -{ &a<!t>:b :c :d :e / / @20"}, {"-\n  &a b:\n  - c", "-[ -{ &a:b -[ :c / / / @15"}, {"&a b:\n- c", "-{ &a:b -[ :c / / @9"}, {"&a b:\n c: d", "-{ &a:b -{ :c :d / / @11"}, {"&x\n  &a b: c\nd: e", "&x-{ &a:b :c / @12"},
		// Of a list.
		{"&a\n- b", "&a-[ :b / @6"}, {"!t &a # r\n\n- b\n- c", "&a<!t>-[ :b :c / @18"}, {"- &a\n  - b", "-[ &a-[ :b / / @10"}, {"a: &b\n  - c", "-{ :a &b-[ :c / / @11"}, {"a: !t\n - b\nc: d", "-{ :a <!t>-[ :b / :c :d / @15"}, {"a:\n  !t\n  - b", "-{ :a <!t>-[ :b / / @13"},
		// Of values and items.
		{"a: &b c\nd: !t 'e'", "-{ :a &b:c :d <!t>'e / @17"}, {"a: &b\n  c: d", "-{ :a &b-{ :c :d / / @12"}, {"a: &b\n  &c d: e\nf: g", "-{ :a &b-{ &c:d :e / :f :g / @20"}, {"a: &b |\n  c\nd: !t >\n  e\n", "-{ :a &b|c~ :d <!t>>e~ / @24"}, {"a: &b [c]\nd: !t {}", "-{ :a &b[ :c / :d <!t>{ / / @18"}, {"a: &b\n  c\nd: !t\n  'e'", "-{ :a &b:c :d <!t>'e / @21"}, {"a: !t\n [b]", "-{ :a <!t>[ :b / / @10"}, {"a: !t\n |\n  b\n", "-{ :a <!t>|b~ / @13"},
		{"- &a b\n- !t 'c'", "-[ &a:b <!t>'c / @15"}, {"- &a\n  b: c\n- &d\n  e", "-[ &a-{ :b :c / &d:e / @20"}, {"- &a\n  &b c: d", "-[ &a-{ &b:c :d / / @14"}, {"- &a b: c\n- &d e: f", "-[ -{ &a:b :c / -{ &d:e :f / / @19"}, {"- !t\n |\n  b\n", "-[ <!t>|b~ / @12"},
		// Nothing behind them.
		{"a: &b", "-{ :a &b: / @5"}, {"a: &b\n", "-{ :a &b: / @5"}, {"a: &b !t # r\nc: d", "-{ :a &b<!t>: :c :d / @17"}, {"- &a\n- !t\n-", "-[ &a: <!t>: : / @11"}, {"- &a # r\n- b", "-[ &a: :b / @12"}, {"- a: &b\n  c: d", "-[ -{ :a &b: :c :d / / @14"}, {"a:\n  &b\nc: d", "-{ :a &b: :c :d / @12"}, {"a:\n  b: &c\nd: e", "-{ :a -{ :b &c: / :d :e / @15"}, {"-\n  &a\n- b", "-[ &a: :b / @10"}, {"&a", "&a: @2"}, {"&a # r", "&a: @6"}, {"&a\n", "&a: @2"}, {"!t &a\n\n# r\n", "&a<!t>: @5"}, {"&a\n---\nb", "&a: @2"}, {"&a  \n...", "&a: @4"}, {"a: &b\n...", "-{ :a &b: / @5"},
		// A place that isn't deeper.
		{"- a: &b\n  - c", "-[ -{ :a &b: !10@10"}, {"- &a\nb: c", "-[ &a: / @4"}, {"a: &b\n&c d: e", "-{ :a &b: &c:d :e / @13"}, {"a:\n  b: &c\n d: e", "-{ :a -{ :b &c: / !9@12"}, {"a:\n  b: &c\n  d: e", "-{ :a -{ :b &c: :d :e / / @17"},
		// The same ones again at another node.
		{"&a\n&a b: &a c", "&a-{ &a:b &a:c / @13"}, {"!t\n!t b: !t\n c", "<!t>-{ <!t>:b <!t>:c / @14"},
	})
}

// P9: properties that aren't right, and those for which there is no place.
func TestBlockWrongProperties(t *testing.T) {
	name := strings.Repeat("x", 60)
	checkBlocks(t, []flowCase{
		{"&a &b c", "!7@3"}, {"!t !u c", "!7@3"}, {"&a !t &b", "!7@6"}, {"& a", "!7@0"}, {"&", "!7@0"}, {"&\na", "!7@0"}, {"&a[b]", "!7@0"}, {"&a, b", "!7@0"}, {"!t{}", "!7@0"}, {"!<u>x", "!7@0"}, {"!! a", "!15@0"}, {"!g!x a", "!15@0"}, {"!!", "!15@0"}, {"&a !g!x\nb", "!15@3"}, {"&" + name + " a", "&" + name + ":a @63"}, {"&" + name + "x a", "!7@0"}, {"!" + name + " a", "!7@0"},
		// At a value, at an item, at a key.
		{"a: &b &c d", "-{ :a !7@6"}, {"a: !! b", "-{ :a !15@3"}, {"- &", "-[ !7@2"}, {"- !t !u\n- a", "-[ !7@5"}, {"a: b\n&c &d e: f", "-{ :a :b !7@8"}, {"a: b\n!! c: d", "-{ :a :b !15@5"}, {"&a &b c: d", "!7@3"}, {"&a, b: c", "!7@0"}, {"a: b\n&: c", "-{ :a :b !10@8"}, {"a: &b[]", "-{ :a !7@3"}, {"- &a[]", "-[ !7@2"},
		// At own ones behind outer ones.
		{"&a\n&b &c d: e", "!7@6"}, {"&a\n!! b: c", "!15@3"}, {"&a\n& b", "!7@3"}, {"- !t\n  !u !v w", "-[ !7@10"},
		// Both outer and own ones where no map follows: with something behind the own ones on their line.
		{"&a\n&b c", "!7@3"}, {"&a\n!t c", "!7@3"}, {"!t\n  &a !u 'c'", "!7@5"}, {"&a\n!t |\n c", "!7@3"}, {"&a\n!t [c]", "!7@3"}, {"&a\n&b - c", "!7@3"}, {"&a\n&b *c", "!7@3"}, {"&a\n&b -", "!7@3"}, {"&a\n&b 'c", "!7@3"}, {"&a\n&b 'c\nd': e", "!7@3"}, {"&a\n!t ? c", "!7@3"}, {"&a\n!t : c", "!7@3"}, {"a: &b\n  &c d", "-{ :a !7@8"}, {"- &a\n  !t b", "-[ !7@7"}, {"a:\n  &b\n  &c d", "-{ :a !7@10"}, {"&a\n!t c:d", "!7@3"}, {"&a\n  !t #c", "!10@8"},
		// And with nothing there.
		{"&a\n&b", "!10@5"}, {"&a\n&b\nc", "!10@5"}, {"&a\n!t  \t\nc: d", "!10@8"}, {"&a\n!t # r\nc: d", "!10@6"}, {"&a\n&b !t\n- c", "!10@8"}, {"&a\n&b\n---", "!10@5"}, {"&a\n&b\n\tc", "!10@5"}, {"a: &b\n  &c\n  d: e", "-{ :a !10@10"}, {"- &a\n  !t\n- b", "-[ !10@9"},
		// Of a key, with no key behind them.
		{"a: b\n&c\nd: e", "-{ :a :b !10@7"}, {"a: b\n&c", "-{ :a :b !10@7"}, {"a: b\n&c  # r\nd: e", "-{ :a :b !10@9"}, {"a: b\n&c d", "-{ :a :b !10@8"}, {"a: b\n&c - d", "-{ :a :b !10@8"}, {"a: b\n&c [d]: e", "-{ :a :b !10@8"}, {"a: b\n!t &c | d", "-{ :a :b !10@11"}, {"a: b\n&c \t", "-{ :a :b !10@9"}, {"a: b\n&c\n---", "-{ :a :b !10@7"},
		// A dash behind own ones.
		{"&a - b", "!10@3"}, {"!t -", "!10@3"}, {"- &a - b", "-[ !10@5"}, {"a:\n  &b - c", "-{ :a !10@8"}, {"a: &b - c", "-{ :a !10@6"}, {"&a -b", "&a:-b @5"}, {"&a\n  - b\n  &c - d", "&a-[ :b / @8"}, {"- a\n&b - c", "-[ :a / @3"},
	})
}

// P9: an inline node is no block collection: an implicit key there is a scalar with something behind it, and a dash begins nothing.
func TestBlockInline(t *testing.T) {
	checkBlocks(t, []flowCase{
		{"a: b: c", "-{ :a :b !8@4"}, {"a: 'b': c", "-{ :a 'b !8@6"}, {"a: \"b\" : c", "-{ :a \"b !8@7"}, {"a: - b", "-{ :a !10@3"}, {"a: -", "-{ :a !10@3"}, {"a: -\n  - b", "-{ :a !10@3"}, {"a: - - b", "-{ :a !10@3"}, {"a: -b", "-{ :a :-b / @5"}, {"a: b:", "-{ :a :b !8@4"}, {"a: b :c", "-{ :a :b_:c / @7"}, {"- a: b: c", "-[ -{ :a :b !8@6"}, {"- a: - b", "-[ -{ :a !10@5"}, {"a: b\n  c: d", "-{ :a :b_c !8@8"}, {"a: b\n  - c", "-{ :a :b_-_c / @10"},
		{"a: &x b: c", "-{ :a &x:b !8@7"}, {"a: !t 'b': c", "-{ :a <!t>'b !8@9"}, {"a: &x - b", "-{ :a !10@6"}, {"a: [b]: c", "-{ :a [ :b / !8@6"}, {"a: {b: c}: d", "-{ :a { :b :c / !8@9"}, {"a: ? b", "-{ :a !10@3"}, {"a: : b", "-{ :a !10@3"}, {"a: :", "-{ :a !10@3"},
		// Behind its properties and a line's end it isn't inline any more.
		{"a: &x\n  b: c", "-{ :a &x-{ :b :c / / @12"}, {"a: &x\n  - b", "-{ :a &x-[ :b / / @11"}, {"a: &x # r\n b: 1", "-{ :a &x-{ :b :1 / / @15"}, {"a: !t\n  b: c: d", "-{ :a <!t>-{ :b :c !8@12"},
		// A dash ahead of it leaves it as it is.
		{"- b: c", "-[ -{ :b :c / / @6"}, {"- - b", "-[ -[ :b / / @5"}, {"- &x b: c", "-[ -{ &x:b :c / / @9"},
		// A key of more than 1000 bytes, or of two lines, is none.
		{strings.Repeat("a", 1000) + ": b", "-{ :" + strings.Repeat("a", 1000) + " :b / @1003"}, {strings.Repeat("a", 1001) + ": b", ":" + strings.Repeat("a", 1001) + " @1001"}, {"- " + strings.Repeat("a", 1001) + ": b", "-[ :" + strings.Repeat("a", 1001) + " !8@1003"}, {"a: b\n" + strings.Repeat("a", 1001) + ": b", "-{ :a :b !10@5"}, {"'a\nb': c", "'a_b @5"}, {"- 'a\n  b': c", "-[ 'a_b !8@9"}, {"a: b\n'c\nd': e", "-{ :a :b !10@5"}, {"a\nb: c", ":a_b @3"}, {"- a\n  b: c", "-[ :a_b !8@7"},
	})
}

// P2, P9: an alias as a value, as an item and as a key; its node must be told and ended.
func TestBlockAliases(t *testing.T) {
	checkBlocks(t, []flowCase{
		{"a: &x b\nc: *x", "-{ :a &x:b :c *x / @13"}, {"- &a b\n- *a\n- *a", "-[ &a:b *a *a / @16"}, {"&k a: *k", "-{ &k:a *k / @8"}, {"- &a\n  b: c\n- *a", "-[ &a-{ :b :c / *a / @16"}, {"a: &x\n- b", "-{ :a &x: !10@6"}, {"- &a\n- *a", "-[ &a: *a / @9"}, {"- &a |\n  b\n- *a", "-[ &a|b~ *a / @15"}, {"- &a [b]\n- [*a]\n- {*a : *a}", "-[ &a[ :b / [ *a / { *a *a / / @27"}, {"- &a b\n-\n  *a\n- c", "-[ &a:b *a :c / @17"},
		// As a key.
		{"a: &x b\n*x : c", "-{ :a &x:b *x :c / @14"}, {"a: &x b\n*x :\n- c", "-{ :a &x:b *x -[ :c / / @16"}, {"- &a b\n- *a : c\n  *a : d", "-[ &a:b -{ *a :c *a :d / / @24"}, {"- &a b\n- *a: c", "-[ &a:b !14@9"}, {"a: &x b\n*x: c", "-{ :a &x:b !10@8"}, {"a: &x: b\n*x: : c", "-{ :a &x::b *x: :c / @16"}, {"- &a b\n-\n  *a :", "-[ &a:b -{ *a : / / @15"},
		{"*a : b", "-{ !14@0"}, {"a: b\n*a : c", "-{ :a :b !14@5"}, {"- *a : b", "-[ -{ !14@2"}, {"a: &x b\n*y : c", "-{ :a &x:b !14@8"}, {"&m\n*m : a", "&m-{ !14@3"}, {"a: &x\n  *x : b", "-{ :a &x-{ !14@8"}, {"&k a: b\n*k : *k", "-{ &k:a :b *k *k / @15"},
		{"&a *b : c", "-{ !16@3"}, {"a: &x b\n&y *x : c", "-{ :a &x:b !16@11"}, {"a: b\n!t *c : d", "-{ :a :b !16@8"}, {"&m\n!t *m : a", "&m-{ !16@6"},
		// With properties.
		{"&a *a", "!16@3"}, {"!t *a", "!16@3"}, {"&a\n*a", "!16@3"}, {"!t\n  *a", "!16@5"}, {"- &a b\n- &c *a", "-[ &a:b !16@12"}, {"- &a b\n- &c\n  *a", "-[ &a:b !16@14"}, {"- &a b\n- !t *a", "-[ &a:b !16@12"}, {"a: &x b\nc: &y *x", "-{ :a &x:b :c !16@14"},
		// A name that isn't right, or of no ended node.
		{"*", "!7@0"}, {"* a", "!7@0"}, {"&a *", "!7@3"}, {"*a", "!14@0"}, {"- *", "-[ !7@2"}, {"- * : a", "-[ !7@2"}, {"a: *b", "-{ :a !14@3"}, {"- &a b\n- *A", "-[ &a:b !14@9"}, {"- *" + strings.Repeat("x", 61) + " : a", "-[ !7@2"}, {"&a\n- *a", "&a-[ !14@5"}, {"&a\nb: *a", "&a-{ :b !14@6"}, {"- &a\n  - *a", "-[ &a-[ !14@9"}, {"- &a\n  - b\n- *a", "-[ &a-[ :b / *a / @15"}, {"&a\n- &b\n  - *b", "&a-[ &b-[ !14@12"}, {"a: &x\n  b: [*x]", "-{ :a &x-{ :b [ !14@12"}, {"&a [*a]", "&a[ !14@4"},
		// The last node with the name counts.
		{"- &a b\n- &a\n  - *a", "-[ &a:b &a-[ !14@16"}, {"- &a\n  - &a b\n  - *a", "-[ &a-[ &a:b *a / / @20"}, {"- &a b\n- &a c\n- *a", "-[ &a:b &a:c *a / @18"}, {"&a\n- &a b\n- *a", "&a-[ &a:b *a / @14"}, {"&a\n&a b: *a", "&a-{ &a:b *a / @11"},
		// Something behind it.
		{"- &a b\n- *a c", "-[ &a:b *a !8@12"}, {"- &a b\n- *a[]", "-[ &a:b *a !8@11"}, {"- &a b\n- *a # r\n- c", "-[ &a:b *a :c / @19"}, {"a: &x b\nc: *x : d", "-{ :a &x:b :c *x !8@14"}, {"a: &x b\nc: *x\n  d", "-{ :a &x:b :c *x !9@16"},
	})
}

// P9: a column above that of a collection, below it, and the same with no key or no dash there.
func TestBlockColumns(t *testing.T) {
	checkBlocks(t, []flowCase{
		// Above.
		{"a: 'b'\n c: d", "-{ :a 'b !9@8"}, {"a: [b]\n   c", "-{ :a [ :b / !9@10"}, {"a:\n  b: 1\n c: 2\n", "-{ :a -{ :b :1 / !9@11"}, {"- 'a'\n - b", "-[ 'a !9@7"}, {"- 'a'\n  b", "-[ 'a !9@8"}, {"a:\n  - b\n - c", "-{ :a -[ :b / !9@10"}, {"a: |\n  b\n c: d", "-{ :a |b~ !9@10"}, {"- - a\n - b", "-[ -[ :a / !9@7"}, {"- a: b\n c: d", "-[ -{ :a :b / !9@8"}, {"a: &x b\n\n # r\n c: d", "-{ :a &x:b !9@15"}, {"a: b\n# r\n c: d", "-{ :a :b !9@10"}, {"- &x\n a\n  b", "-[ &x:a_b / @11"},
		// Below.
		{"  a: b\n c: d", "-{ :a :b / @6"}, {"  - a\n - b", "-[ :a / @5"}, {"  a: b\nc", "-{ :a :b / @6"}, {"  - a\n&", "-[ :a / @5"}, {"  a:\n    b: c\n d", "-{ :a -{ :b :c / / @13"},
		// The same.
		{"a: b\nc", "-{ :a :b !10@5"}, {"a: b\n- c", "-{ :a :b !10@5"}, {"a: b\n[c]: d", "-{ :a :b !10@5"}, {"a: b\n? c", "-{ :a :b !10@5"}, {"a: b\n: c", "-{ :a :b !10@5"}, {"a: b\nc:d", "-{ :a :b !10@5"}, {"a: b\n'c", "-{ :a :b !10@5"}, {"a: b\n\"\\q\": c", "-{ :a :b !10@5"}, {"a: b\n|\n c", "-{ :a :b !10@5"}, {"a: b\n%c: d", "-{ :a :b !10@5"}, {"a:\n  b: c\n  d\ne: f", "-{ :a -{ :b :c !10@12"}, {"a: b\n*c: d", "-{ :a :b !10@5"}, {"a: b\n*", "-{ :a :b !10@5"},
		{"- a\nb", "-[ :a / @3"}, {"- a\nb: c", "-[ :a / @3"}, {"- a\n-b", "-[ :a / @3"}, {"- a\n[", "-[ :a / @3"}, {"- a\n&", "-[ :a / @3"}, {"a:\n  - b\n  c: d", "-{ :a -[ :b / !9@11"}, {"- - a\n  b", "-[ -[ :a / !9@8"}, {"- - 'a'\n  b", "-[ -[ 'a / !9@10"}, {"-\n  a: b\n  - c", "-[ -{ :a :b !10@11"}, {"- a: b\n  c", "-[ -{ :a :b !10@9"},
		// The first one sets the column, also where what is around is less deep.
		{"a:\n     b: c\n     d: e\nf: g", "-{ :a -{ :b :c :d :e / :f :g / @27"}, {"-    a: b\n     c: d", "-[ -{ :a :b :c :d / / @19"}, {"-    - b\n     - d\n- e", "-[ -[ :b :d / :e / @21"}, {"-    a: b\n  c: d", "-[ -{ :a :b / !9@12"},
	})
}

// P9: a tab ahead of the first thing of a line is a fault wherever the reader comes to it, but not ahead of a stop or a remark.
func TestBlockTabs(t *testing.T) {
	checkBlocks(t, []flowCase{
		{"\ta", "!2@0"}, {"\ta: b", "!2@0"}, {"\t- a", "!2@0"}, {" \t a: b", "!2@1"}, {"  \t\ta", "!2@2"}, {"\n\n \t'a'", "!2@3"}, {"# r\n\t[]", "!2@4"}, {"\t&a b", "!2@0"}, {"\t|\n a", "!2@0"}, {"\t?", "!2@0"}, {"\t&", "!2@0"},
		{"a: 'b'\n\tc: d", "-{ :a 'b !2@7"}, {"a:\n\tb", "-{ :a !2@3"}, {"a:\n\tb: c", "-{ :a !2@3"}, {"a:\n  \tb", "-{ :a !2@5"}, {"a:\n\t- b", "-{ :a !2@3"}, {"a: # r\n\n \t b", "-{ :a !2@9"}, {"- 'a'\n\t- b", "-[ 'a !2@6"}, {"-\n\ta", "-[ !2@2"}, {"-\n  \ta", "-[ !2@4"}, {"- a: [b]\n \tc: d", "-[ -{ :a [ :b / !2@10"}, {"a:\n  b: 'c'\n\td: e", "-{ :a -{ :b 'c !2@12"}, {"a: |\n  b\n\tc: d", "-{ :a |b~ !2@9"}, {"a:\n-\n\tb", "-{ :a -[ !2@5"}, {"a: b # r\n\tc", "-{ :a :b !2@9"},
		{"&a\n\tb", "!2@3"}, {"&a\n\tb: c", "!2@3"}, {"a: &b\n\tc", "-{ :a !2@6"}, {"- &a\n\t- b", "-[ !2@5"}, {"a: &b\n\tc: d", "-{ :a !2@6"}, {"&a # r\n \t\n\t- b", "!2@10"},
		// Ahead of a stop, a remark or a line's end.
		{"\t", "!3@1"}, {"a: b\n\t", "-{ :a :b / @4"}, {"a:\n\t\n", "-{ :a : / @2"}, {"a: b\n\t# r\nc: d", "-{ :a :b :c :d / @14"}, {"\t# r\na", ":a @6"}, {"- a\n \t\n- b", "-[ :a :b / @10"}, {"&a\n\t", "&a: @2"}, {"a:\n\t# r\n  b", "-{ :a :b / @11"},
		// Behind something on the line, or in a line that is part of a scalar or a flow node.
		{"-\ta", "-[ :a / @3"}, {"a:\tb", "-{ :a :b / @4"}, {"a\t: b", "-{ :a :b / @5"}, {"-\t- a", "-[ -[ :a / / @5"}, {"a: b\t\nc: d", "-{ :a :b :c :d / @10"}, {"a: [b,\n\tc]\nd: e", "-{ :a [ :b :c / :d :e / @15"}, {"a: 'b\n\tc'\nd: e", "-{ :a 'b_c :d :e / @14"}, {"a: b\n \tc\nd: e", "-{ :a :b_c :d :e / @13"}, {"a: |\n \tb\nc: d", "-{ :a |\tb~ :c :d / @13"}, {"&a\tb", "&a:b @4"},
		// In the column 0 a tab makes no line deeper than the column of the map; the plain scalar ends there.
		{"a: b\n\tc", "-{ :a :b !2@5"}, {"- a\n\tb", "-[ :a !2@4"}, {"a\n\tb", ":a_b @4"},
	})
	checkBlocksAt(t, []blockCase{
		// A place that isn't deeper is asked for tabs all the same.
		{"&a\n\tb", 0, 9, "!2@3"}, {"&a\n\t---", 0, 9, "!2@3"},
		// A tab ahead of the place counts, if the place is the first one on its line that isn't white.
		{"\ta", 1, -1, "!2@0"}, {" \t a", 2, -1, "!2@1"}, {"x\n\ta", 1, -1, "!2@2"}, {"x\n\ta", 3, -1, "!2@2"}, {"x\ta", 1, -1, ":a @3"}, {"\tx a", 2, -1, ":a @4"}, {"x\t- a", 1, 0, "-[ :a / @5"},
	})
}

// P9: behind a scalar or a flow node there may be nothing else on its line.
func TestBlockBehindNodes(t *testing.T) {
	checkBlocks(t, []flowCase{
		{"a: 'b' c", "-{ :a 'b !8@7"}, {"a: 'b'c", "-{ :a 'b !8@6"}, {"a: \"b\" \"c\"", "-{ :a \"b !8@7"}, {"- 'a' b", "-[ 'a !8@6"}, {"a: [b] c", "-{ :a [ :b / !8@7"}, {"a: [b]c", "-{ :a [ :b / !8@6"}, {"- {} {}", "-[ { / !8@5"}, {"- []]", "-[ [ / !8@4"}, {"a: [\nb\n] c", "-{ :a [ :b / !8@9"}, {"a: 'b\n  c' d", "-{ :a 'b_c !8@11"}, {"a: b: c", "-{ :a :b !8@4"}, {"a: b\n c: d", "-{ :a :b_c !8@7"}, {"- a: b: c", "-[ -{ :a :b !8@6"}, {"a: 'b'\t,", "-{ :a 'b !8@7"}, {"a: [b]: c", "-{ :a [ :b / !8@6"}, {"- [a]\t- b", "-[ [ :a / !8@6"}, {"a: 'b' 'c", "-{ :a 'b !8@7"}, {"a: 'b' &", "-{ :a 'b !8@7"}, {"a: 'b' *", "-{ :a 'b !8@7"}, {"- 'a' - b", "-[ 'a !8@6"},
		// Also where a collection is over with the node, or all of them are.
		{"a:\n  b: 'c' d\ne: f", "-{ :a -{ :b 'c !8@12"}, {"- - [a] b\n- c", "-[ -[ [ :a / !8@8"}, {"- 'a' b\n---", "-[ 'a !8@6"},
		// Behind what ends its line no more is asked of it.
		{"a: # b", "-{ :a : / @6"}, {"a: &b # c\nd: e", "-{ :a &b: :d :e / @14"}, {"a: |\n b\nc: d", "-{ :a |b~ :c :d / @12"},
	})
}

// P9: block scalars as values and items, whose lines hang on the column of what they are in; the reader goes on at the line that ends them.
func TestBlockScalars(t *testing.T) {
	checkBlocks(t, []flowCase{
		{"a: |\n  b\n  c\nd: e", "-{ :a |b~c~ :d :e / @17"}, {"a: >\n  b\n  c\nd: e", "-{ :a >b_c~ :d :e / @17"}, {"- |\n a\n- >\n b\n", "-[ |a~ >b~ / @14"}, {"- |-\n  a\n  b\n- c", "-[ |a~b :c / @16"}, {"a: |+\n  b\n\n\nc: d", "-{ :a |b~~~ :c :d / @16"}, {"a: |-\n  b\n\n\nc: d", "-{ :a |b :c :d / @16"}, {"a: |2\n   b\nc: d", "-{ :a |_b~ :c :d / @15"}, {"a: |1-\n   b\nc: d", "-{ :a |__b :c :d / @16"}, {"- |1\n  a\n- b", "-[ |_a~ :b / @12"}, {"- - |1\n    a\n- b", "-[ -[ |_a~ / :b / @16"}, {"- - |\n   a\n- b", "-[ -[ |a~ / :b / @14"},
		{"a: |\nb: c", "-{ :a | :b :c / @9"}, {"a: |", "-{ :a | / @4"}, {"a: |\n", "-{ :a | / @5"}, {"a: |+\n\n\n", "-{ :a |~~ / @8"}, {"- |\n- a", "-[ | :a / @7"}, {"a: |\n---", "-{ :a | / @5"}, {"a: |\n b\n...", "-{ :a |b~ / @8"}, {"a: |\n b\n\n", "-{ :a |b~ / @9"}, {"a: |\n b\n  ", "-{ :a |b~_~ / @10"}, {"|", "| @1"}, {"|\na", "|a~ @3"}, {">\na\nb\n", ">a_b~ @6"}, {"|\na\n---\n", "|a~ @4"}, {"|1\na", "| @3"}, {"|1\n a\nb", "|a~ @6"},
		{"a:\n  |\n  b\nc: d", "-{ :a |b~ :c :d / @15"}, {"a:\n  |\n b\nc: d", "-{ :a |b~ :c :d / @14"}, {"-\n  >\n a\n- b", "-[ >a~ :b / @12"}, {"a:\n  b: |\n    c\n  d: e\nf: g", "-{ :a -{ :b |c~ :d :e / :f :g / @27"}, {"a:\n  b: |\n    c\nd: e", "-{ :a -{ :b |c~ / :d :e / @20"}, {"a:\n- |\n b\n- c\nd: e", "-{ :a -[ |b~ :c / :d :e / @18"}, {"a:\n- |\n  b\n c", "-{ :a -[ |b~ !9@12"},
		{"a: |\n  b\n# r\nc: d", "-{ :a |b~ :c :d / @17"}, {"a: |\n  b\n # r\n\nc: d", "-{ :a |b~ :c :d / @19"}, {"a: |\n  b\n  # r\nc: d", "-{ :a |b~#_r~ :c :d / @19"}, {"a: |  # r\n  b\nc: d", "-{ :a |b~ :c :d / @18"}, {"a: &x |\n  b: c\nd: *x", "-{ :a &x|b:_c~ :d *x / @20"}, {"a: |\n  - b\n- c", "-{ :a |-_b~ !10@11"}, {"a: |\n  b\n  c: d\n e: f", "-{ :a |b~c:_d~ !9@17"}, {"- a: |\n    b\n  c: >\n    d\n- e", "-[ -{ :a |b~ :c >d~ / :e / @29"},
		// Heads that aren't right.
		{"a: |x\n b", "-{ :a !6@4"}, {"a: | b", "-{ :a !6@5"}, {"- >22\n a", "-[ !6@4"}, {"|0\n a", "!6@1"}, {"a: &x |++\n b", "-{ :a !6@8"}, {"- |: a", "-[ !6@3"}, {"a: |# r\n b", "-{ :a !6@4"}, {"&a\n| b", "!6@5"},
	})
	checkBlocksAt(t, []blockCase{
		// n of each kind: what isn't deeper than it isn't taken, and a digit is counted from it.
		{"|\n  a\n b\nc", 0, -1, "|a~ @6"}, {"|\n  a\n b\nc", 0, 1, "|a~ @6"}, {"|\n  a\n b\nc", 0, 2, "| @2"}, {"|\na\nb", 0, -1, "|a~b~ @5"}, {"|\na\nb", 0, 0, "| @2"}, {"|\na\nb", 0, lowest, "|a~b~ @5"}, {"|\na\nb", 0, highest, "| @2"}, {"|1\n   a", 0, -1, "|__a~ @7"}, {"|1\n   a", 0, 0, "|__a~ @7"}, {"|1\n   a", 0, 1, "|_a~ @7"}, {"|1\n   a", 0, 2, "|a~ @7"}, {"|1\n   a", 0, 3, "| @3"}, {"|1\n   a", 0, lowest, "|__a~ @7"}, {"|1\n   a", 0, highest, "| @3"}, {"|9\n   a", 0, highest - 1, "| @3"},
		{"- |\n a", 0, 5, "-[ |a~ / @6"}, {"a: |1\n  b", 0, 5, "-{ :a |_b~ / @9"}, {"&x |\n  a", 0, 1, "&x|a~ @8"}, {"&x\n |\n  a", 0, 0, "&x|a~ @9"}, {"&x\n |\n a", 0, 0, "&x|a~ @8"}, {"&x\n  |\n a", 0, 1, "&x| @7"},
	})
}

// P9: a plain scalar goes on over lines that are deeper than the column of what it is in.
func TestBlockPlainLines(t *testing.T) {
	checkBlocks(t, []flowCase{
		{"a: b\n c\n  d\ne: f", "-{ :a :b_c_d :e :f / @16"}, {"a: b\n\n\n c\nd: e", "-{ :a :b~~c :d :e / @14"}, {"- a\n b\n- c", "-[ :a_b :c / @10"}, {"- a\n  b\n\n  c\n- d", "-[ :a_b~c :d / @16"}, {"a:\n  b\n c\nd: e", "-{ :a :b_c :d :e / @14"}, {"a\nb\n c", ":a_b_c @6"}, {"a:\n  b: c\n   d\n  e: f", "-{ :a -{ :b :c_d :e :f / / @21"}, {"- a: b\n   c\n  d: e", "-[ -{ :a :b_c :d :e / / @18"}, {"- a: b\n  c", "-[ -{ :a :b !10@9"}, {"a: b\nc", "-{ :a :b !10@5"}, {"- a\nb", "-[ :a / @3"}, {"a:\n- b\n c\nd: e", "-{ :a -[ :b_c / :d :e / @14"}, {"- - a\n  b\n - c", "-[ -[ :a / !9@8"}, {"- - a\n   b\n  - c", "-[ -[ :a_b :c / / @16"},
		{"a: b\n 'c'\n [d]", "-{ :a :b_'c'_[d] / @14"}, {"a: b\n - c\n - d: e", "-{ :a :b_-_c_-_d !8@14"}, {"a: &x b\n *x", "-{ :a &x:b_*x / @11"}, {"a: b\n---\nc", "-{ :a :b / @4"}, {"a: b\n...", "-{ :a :b / @4"}, {"a: b\n ---", "-{ :a :b_--- / @9"}, {"a: b\n : c", "-{ :a :b !9@6"}, {"a: b\n #c", "-{ :a :b / @4"}, {"a: b\n c#d", "-{ :a :b_c#d / @9"}, {"a: b, c]", "-{ :a :b,_c] / @8"}, {"&x a\nb", "&x:a_b @6"}, {"&x\na\nb", "&x:a_b @6"},
	})
	checkBlocksAt(t, []blockCase{
		{"a\n b\nc", 0, -1, ":a_b_c @6"}, {"a\n b\nc", 0, 0, ":a_b @4"}, {"a\n b\nc", 0, 1, ":a @1"}, {"a\n b\nc", 0, lowest, ":a_b_c @6"}, {"a\n b\nc", 0, highest, ":a @1"}, {"- a\n b\nc", 0, 9, "-[ :a_b / @6"}, {"a: b\n c", 0, 9, "-{ :a :b_c / @7"},
	})
}

// P9: what the scalars and the flow nodes refuse is told as they tell it.
func TestBlockFaultsWithin(t *testing.T) {
	checkBlocks(t, []flowCase{
		{"a: 'b", "-{ :a !3@5"}, {"a: \"b", "-{ :a !3@5"}, {"- 'a\n---\n'", "-[ !4@5"}, {"- \"a\n... b\"", "-[ !4@5"}, {`a: "\q"`, "-{ :a !5@4"}, {"'a", "!3@2"}, {`"\q": a`, "!5@1"}, {"a: &x 'b", "-{ :a !3@8"}, {"'a\n---", "!4@3"},
		{"a: [b", "-{ :a [ :b !3@5"}, {"- [a\n---\n]", "-[ [ :a !4@5"}, {"a: [b c: d]", "-{ :a [ :b_c !11@7"}, {"a: {b", "-{ :a { :b !3@5"}, {"- [a,,]", "-[ [ :a !10@5"}, {"- {a: b]", "-[ { :a :b !11@7"}, {"- [&a &b]", "-[ [ !7@6"}, {"- [!! a]", "-[ [ !15@3"}, {"- [*a]", "-[ [ !14@3"}, {"- &a [&b *b]", "-[ &a[ !16@9"}, {"- [|]", "-[ [ !10@3"}, {"- [- a]", "-[ [ !10@3"}, {"- [\"\\q\"]", "-[ [ !5@4"}, {"]", "!10@0"}, {"}", "!10@0"}, {",", "!10@0"}, {"a: ]", "-{ :a !10@3"}, {"- }", "-[ !10@2"}, {"a: , b", "-{ :a !10@3"},
		// What begins no node.
		{"? a", "!10@0"}, {"?", "!10@0"}, {": a", "!10@0"}, {":", "!10@0"}, {"%a", "!10@0"}, {"@a", "!10@0"}, {"`a", "!10@0"}, {"%a: b", "!10@0"}, {"- ? a", "-[ !10@2"}, {"- : a", "-[ !10@2"}, {"a: %b", "-{ :a !10@3"}, {"a: @b", "-{ :a !10@3"}, {"a: `b", "-{ :a !10@3"}, {"a:\n  ? b", "-{ :a !10@5"}, {"&a ? b", "!10@3"}, {"&a\n: b", "!10@3"}, {"!t ,", "!10@3"}, {"&a ]", "!10@3"}, {"!t }", "!10@3"}, {"- &a ,", "-[ !10@5"},
		// A flow node is no key, and has no columns.
		{"[a]: b", "[ :a / @3"}, {"{a: b}: c", "{ :a :b / @6"}, {"- [a]: b", "-[ [ :a / !8@5"}, {"a:\n    [b,\nc\n  ]\nd: e", "-{ :a [ :b :c / :d :e / @21"}, {"a: {\nb: c\n}\nd: e", "-{ :a { :b :c / :d :e / @16"}, {"a:\n[b]", "-{ :a : !10@3"}, {"- a:\n   {b: [c, d]}\n  e: f", "-[ -{ :a { :b [ :c :d / / :e :f / / @26"},
	})
}

// deepBlock opens so many block collections, of the kinds that the letters tell in turn, a list on its line and a map with its value on the next one;
// it tells what is told of them, and the column in which the next node stands.
func deepBlock(n int, letters, own string) (text, told string, col int) {
	for i := range n {
		if own != "" {
			text += own + "\n" + strings.Repeat(" ", col)
		}
		told += own
		switch letters[i%len(letters)] {
		case 'q':
			text, told, col = text+"- ", told+"-[ ", col+2
		case 'm':
			text, told, col = text+"k:\n"+strings.Repeat(" ", col+1), told+"-{ :k ", col+1
		}
	}
	return text, told, col
}

// P2, P9: MaxDepth collections may be open, and one more is a fault: of a list at its dash, of a map at its first own property or its key, of a flow node at its sign.
func TestBlockDepth(t *testing.T) {
	for _, letters := range []string{"q", "m", "qm", "mq", "mmq", "qqm"} {
		for _, own := range []string{"", "&a", "!t"} {
			word := strings.Replace(own, "!t", "<!t>", 1)
			for _, n := range []int{1, 2, 39, 40} {
				text, told, _ := deepBlock(n, letters, own)
				told = strings.ReplaceAll(told, "!t", "<!t>")
				ends := strings.Repeat("/ ", n)
				checkBlocks(t, []flowCase{
					{text + "x", fmt.Sprintf("%s:x %s@%d", told, ends, len(text)+1)},
					{text + "'x'\n", fmt.Sprintf("%s'x %s@%d", told, ends, len(text)+3)},
				})
			}
			text, told, col := deepBlock(40, letters, own)
			told = strings.ReplaceAll(told, "!t", "<!t>")
			fault := func(more string, code, at int) {
				t.Helper()
				checkBlocks(t, []flowCase{{text + more, fmt.Sprintf("%s!%d@%d", told, code, len(text)+at)}})
			}
			for _, sign := range []string{"- x", "-", "- - x", "-\n", "k: v", "k:", "'k': v", "k: 'v", "*k : v", "[", "{", "[]", "{}", "[*", "{k: v}", "- [", "- &a", "k: &"} {
				fault(sign, 12, 0)
				outer := "&b !u # r\n" + strings.Repeat(" ", col)
				fault(outer+sign, 12, len(outer))
			}
			fault("&b k: v", 12, 0)
			fault("!u &b k: v", 12, 0)
			fault("&b *k : v", 12, 0)
			fault("&b [", 12, 3)
			fault("!u {}", 12, 3)
			// What is met ahead of it.
			fault("&b &c k: v", 7, 3)
			fault("!! k: v", 15, 0)
			fault("&b - x", 10, 3)
			fault("*k", 14, 0)
			fault("'x", 3, 2)
			checkBlocks(t, []flowCase{{text + own + " x", fmt.Sprintf("%s%s:x %s@%d", told, word, strings.Repeat("/ ", 40), len(text+own)+2)}})
		}
	}
}

// P2, P9: block collections and those in the flow style count together, and what is ended doesn't count.
func TestBlockDepthMixed(t *testing.T) {
	for _, letters := range []string{"q", "m", "qm"} {
		for _, n := range []int{1, 20, 39, 40} {
			text, told, _ := deepBlock(n, letters, "")
			flow, flowTold := deepFlow(40-n, "qm", "")
			behind, ends := closedFlow(40-n, "qm")
			checkBlocks(t, []flowCase{
				{text + flow + "x" + behind, fmt.Sprintf("%s%s:x %s%s@%d", told, flowTold, ends, strings.Repeat("/ ", n), len(text+flow+behind)+1)},
				{text + flow + "[x]" + behind, fmt.Sprintf("%s%s!12@%d", told, flowTold, len(text+flow))},
				{text + flow + "&b {", fmt.Sprintf("%s%s!12@%d", told, flowTold, len(text+flow)+3)},
			})
		}
	}
	many := strings.Repeat("- - a\n", 100)
	checkBlocks(t, []flowCase{
		{many, "-[ " + strings.Repeat("-[ :a / ", 100) + "/ @599"},
		{strings.Repeat("k:\n- {}\n", 50), "-{ " + strings.Repeat(":k -[ { / / ", 50) + "/ @399"},
		{strings.Repeat("- ", 38) + many, strings.Repeat("-[ ", 40) + ":a " + strings.Repeat("/ ", 39) + strings.Repeat("-[ :a / ", 99) + "/ @675"},
	})
	checkBlocks(t, []flowCase{{strings.Repeat("- ", 40) + "a: b", strings.Repeat("-[ ", 40) + "!12@80"}, {strings.Repeat("- ", 39) + "a: b", strings.Repeat("-[ ", 39) + "-{ :a :b " + strings.Repeat("/ ", 40) + "@82"}, {strings.Repeat("- ", 41), strings.Repeat("-[ ", 40) + "!12@80"}, {strings.Repeat("- ", 40), strings.Repeat("-[ ", 40) + ": " + strings.Repeat("/ ", 40) + "@80"}})
}

// P9: the place is brought into the text, and then goes over a gap; the node isn't inline there, whatever is ahead of it.
func TestBlockPlaces(t *testing.T) {
	checkBlocksAt(t, []blockCase{
		{"a: b", -1, -1, "-{ :a :b / @4"}, {"a: b", lowest, -1, "-{ :a :b / @4"}, {" \n a: b", lowest, -1, "-{ :a :b / @7"}, {" \n a: b", 1, -1, "-{ :a :b / @7"}, {" \n a: b", 2, -1, "-{ :a :b / @7"}, {" \n a: b", 3, -1, "-{ :a :b / @7"}, {" \n a: b", 4, -1, "!10@4"}, {" \n a: b", 5, -1, ":b @7"}, {" \n a: b", 6, -1, ":b @7"}, {" \n a: b", 7, -1, "!3@7"}, {" \n a: b", 8, -1, "!3@7"}, {" \n a: b", highest, -1, "!3@7"}, {"a: b ", 4, -1, "!3@5"}, {"- a", highest - 1, -1, "!3@3"},
		{"a: b: c", 2, -1, "-{ :b :c / @7"}, {"a: b: c", 3, -1, "-{ :b :c / @7"}, {"a: - b", 2, 0, "-[ :b / @6"}, {"x - a\n  - b\n- c", 1, -1, "-[ :a :b / @11"}, {"x a: b\n  c: d\n e", 1, 0, "-{ :a :b :c :d / @13"}, {"x &y a: b\n  c: d", 1, 0, "-{ &y:a :b :c :d / @16"}, {"x\n- a\n- b", 1, -1, "-[ :a :b / @9"}, {"- a\n- b", 2, -1, ":a_-_b @7"}, {"- a\n- b", 2, 0, ":a @3"}, {"a: b\nc: d", 4, -1, "-{ :c :d / @9"}, {"a: b\nc: d", 3, -1, ":b_c @6"}, {"a: b\nc: d", 3, 0, ":b @4"},
		// A gap has remarks in it; a place within one is a place like any other.
		{"a # b: c", 1, -1, "!3@8"}, {"a # b: c", 3, -1, "-{ :b :c / @8"}, {"a # r\nb: c", 1, -1, "-{ :b :c / @10"}, {"a#b", 1, -1, "!10@1"},
		// A mark counts at the beginning of its line alone.
		{"a\n---\nb", 1, -1, "!4@2"}, {"a\n---\nb", 2, -1, "!4@2"}, {"a\n---\nb", 3, -1, ":--_b @7"}, {"a\n---\nb", 5, -1, ":b @7"}, {"--- a: b", 3, -1, "-{ :a :b / @8"}, {"... - a", 3, -1, "-[ :a / @7"},
		// The document begins at the place: nothing is open there, and no name was given.
		{"- &a b\n- *a", 7, -1, "-[ !14@9"}, {"- &a b\n- *a", 2, -1, "&a:b_-_*a @11"}, {strings.Repeat("- ", 60) + "a", 40, -1, strings.Repeat("-[ ", 40) + ":a " + strings.Repeat("/ ", 40) + "@121"}, {strings.Repeat("- ", 60) + "a", 38, -1, strings.Repeat("-[ ", 40) + "!12@118"}, {"%TAG !g! p:\n--- !g!x y", 15, -1, "!15@16"},
	})
}

// P9: n is asked of what is behind properties, of block scalars and of plain ones; where the node itself begins isn't asked.
func TestBlockColumnsGiven(t *testing.T) {
	for _, n := range []int{lowest, lowest + 1, -100, -2, -1} {
		checkBlocksAt(t, []blockCase{{"&x\nb", 0, n, "&x:b @4"}, {"&x\n- b", 0, n, "&x-[ :b / @6"}, {"&x\nb: c", 0, n, "&x-{ :b :c / @7"}, {"a\nb", 0, n, ":a_b @3"}, {"|\na", 0, n, "|a~ @3"}, {"|1\n a", 0, n, "|a~ @5"}, {"", 0, n, "!3@0"}})
	}
	for _, n := range []int{0, 1, 2, 60000, 60001, highest - 1, highest} {
		checkBlocksAt(t, []blockCase{{"a: b", 0, n, "-{ :a :b / @4"}, {"- a\n- b", 0, n, "-[ :a :b / @7"}, {"a", 0, n, ":a @1"}, {"[a]", 0, n, "[ :a / @3"}, {"&x\nb", 0, n, "&x: @2"}, {"&x\n- b", 0, n, "&x: @2"}, {"&x # r\nb: c", 0, n, "&x: @6"}, {"&x b: c", 0, n, "-{ &x:b :c / @7"}, {"a\nb", 0, n, ":a @1"}, {"a:\n b: c", 0, n, "-{ :a -{ :b :c / / @8"}, {"|\na", 0, n, "| @2"}, {"---", 0, n, "!4@0"}, {"'a\nb'", 0, n, "'a_b @5"}})
	}
	checkBlocksAt(t, []blockCase{
		{"&x\n b", 0, 0, "&x:b @5"}, {"&x\n b", 0, 1, "&x: @2"}, {"&x\n  b: c", 0, 1, "&x-{ :b :c / @9"}, {"&x\n  b: c", 0, 2, "&x: @2"}, {"&x\n  - b", 0, 1, "&x-[ :b / @8"}, {"&x\n  - b", 0, 2, "&x: @2"}, {"&x\n  &y b: c", 0, 1, "&x-{ &y:b :c / @12"}, {"&x\n  &y b: c", 0, 2, "&x: @2"}, {"&x\n  &y b", 0, 2, "&x: @2"},
	})
}

// P9: of two faults the one that is met first is told.
func TestBlockFirstFaults(t *testing.T) {
	checkBlocks(t, []flowCase{
		{"a: 'b' c\n\td", "-{ :a 'b !8@7"}, {"a: 'b'\n\t'c", "-{ :a 'b !2@7"}, {"a: 'b'\n \t&", "-{ :a 'b !2@8"}, {"a: 'b'\n &", "-{ :a 'b !9@8"}, {"a: 'b'\n 'c", "-{ :a 'b !9@8"}, {"a: 'b'\n&", "-{ :a 'b !7@7"}, {"&a &b\n\tc", "!7@3"}, {"&a\n\t&b &c", "!2@3"}, {"&a\n!t |x", "!7@3"}, {"&a\n!t\n\tb", "!10@5"}, {"a: *x y", "-{ :a !14@3"}, {"a: &b *c d", "-{ :a !16@6"}, {"a: * b", "-{ :a !7@3"}, {"*x : 'y", "-{ !14@0"}, {"&a *x : 'y", "-{ !16@3"}, {"&a * : b", "!7@3"}, {"a: [b c", "-{ :a [ :b_c !3@7"}, {"a: 'b\n---\n' c", "-{ :a !4@6"}, {"a: |x\n\tb", "-{ :a !6@4"}, {"a: - &", "-{ :a !10@3"}, {"a: b: &", "-{ :a :b !8@4"}, {"- ? &", "-[ !10@2"}, {"a: !! &", "-{ :a !15@3"}, {"a: !!\n\tb", "-{ :a !15@3"}, {"a: &b[] !!", "-{ :a !7@3"}, {"a:\n\t&", "-{ :a !2@3"}, {"- - 'a' b\n\tc", "-[ -[ 'a !8@8"}, {"- 'a'\n\t---", "-[ 'a !2@6"},
	})
}

// P9: the empty text, gaps alone, and texts that aren't clean, at the edges of p and n.
func TestBlockWrongInputs(t *testing.T) {
	edges := []int{lowest, lowest + 1, -2, -1, 0, 1, 2, highest - 1, highest}
	for _, p := range edges {
		for _, n := range edges {
			checkBlocksAt(t, []blockCase{{"", p, n, "!3@0"}, {" \t\n # r\n#\n", p, n, "!3@10"}, {"\n\n\n", p, n, "!3@3"}})
		}
	}
	checkBlocks(t, []flowCase{
		{"\x00", ":\x00 @1"}, {"\xff", ":\xff @1"}, {"\r", ":\r @1"}, {"\u00a0", ":\u00a0 @2"}, {"\ufeffa: b", "-{ :\ufeffa :b / @7"}, {"\x00: \xff", "-{ :\x00 :\xff / @4"}, {"- \x00\n- \xc3", "-[ :\x00 :\xc3 / @7"}, {"a: b\r\nc: d\r\n", "-{ :a :b\r :c :d\r / @11"}, {"a:\r\n  b: c", ":a:\r_b @7"}, {"'\xff': \"\x00\"", "-{ '\xff \"\x00 / @8"}, {"a: |\n \xff\x00\n", "-{ :a |\xff\x00~ / @9"}, {"- &\xff \x00\n- *\xff", "-[ &\xff:\x00 *\xff / @11"}, {"- &\xff a\n- *\xfe", "-[ &\xff:a !14@9"}, {"-\x00a", ":-\x00a @3"}, {"a:\x00b", ":a:\x00b @4"}, {"a: 'b'\x00", "-{ :a 'b !8@6"}, {"a: 'b'\r\nc: d", "-{ :a 'b !8@6"}, {"\x00a: b\n\xffc: d", "-{ :\x00a :b :\xffc :d / @11"}, {"!<u>\x00", "!7@0"}, {"&a\x00 b", "&a\x00:b @5"}, {"- [\xff\x00]\n", "-[ [ :\xff\x00 / / @6"},
	})
}

// blockRule reads a block node by a list of the collections that are open and a word for what is next; it never calls itself.
type blockRule struct {
	flowRule
	open   []blockOpen
	n      int // where the next node stands
	inline bool
	loose  bool
	own    impl.Event // the properties of the next key
	over   bool       // the line is over with what was read last
}

type blockOpen struct {
	list bool
	col  int
}

func blockNodeByRule(s string, p, n int) nodeTold {
	r := &blockRule{flowRule: flowRule{s: s}, n: n}
	next := flowOver
	if r.comeTo(placeByRule(s, p)) {
		next = "node"
	}
	if code := r.stop(); next != flowOver && code != 0 {
		next = r.fault(code, r.at)
	}
	r.runFrom(next)
	if r.out.code == 0 {
		r.out.place = r.at
	}
	return r.out
}

func (r *blockRule) runFrom(next string) {
	for next != flowOver {
		switch next {
		case "node":
			next = r.nextNode()
		case "key":
			next = r.nextKey()
		case "inside":
			next = r.inside()
		case "behind":
			next = r.behindAll()
		}
	}
}

func colByRule(s string, p int) int {
	return p - lineByRule(s, p).from
}

// comeTo goes over the gap from p on; false where a tab is ahead of what is there.
func (r *blockRule) comeTo(p int) bool {
	r.at = gapByRule(r.s, p)
	ahead := r.s[lineByRule(r.s, r.at).from:r.at]
	tab := strings.Index(ahead, "\t")
	if r.stop() == 0 && tab >= 0 && strings.Trim(ahead, " \t") == "" {
		r.fault(2, r.at-len(ahead)+tab)
		return false
	}
	return true
}

func (r *blockRule) isDash() bool {
	return r.sees(`-[ \t\n]|-\z`)
}

func (r *blockRule) tellText(e impl.Event, style int, text string) {
	e.Kind, e.Style, e.Text = 5, style, text
	r.out.events = append(r.out.events, e)
}

// openAt tells a collection, unless it is too deep.
func (r *blockRule) openAt(from int, list bool, e impl.Event) bool {
	if len(r.open) >= 40 {
		r.fault(12, from)
		return false
	}
	e.Kind, e.Style = map[bool]int{true: 3, false: 4}[list], 7
	r.out.events = append(r.out.events, e)
	r.open = append(r.open, blockOpen{list, colByRule(r.s, from)})
	return true
}

// deeperAt comes to the next line behind p; where nothing there is deeper, it goes to the end of the line of p.
func (r *blockRule) deeperAt(p int) (deeper, ok bool) {
	if !r.comeTo(p) {
		return false, false
	}
	col := colByRule(r.s, r.at)
	if r.stop() != 0 || !(col > r.n || r.loose && col == r.n && r.isDash()) {
		r.at = lineByRule(r.s, p).to
		return false, true
	}
	return true, true
}

func (r *blockRule) nextNode() string {
	none := impl.Event{}
	from := r.at
	own, ok := r.words()
	if !ok {
		return flowOver
	}
	outer := none
	if own != none {
		if _, alone := restByRule(r.s, r.flowRule.behind); alone {
			outer = own
			deeper, ok := r.deeperAt(r.flowRule.behind)
			if !ok {
				return flowOver
			}
			if !deeper {
				r.tellText(outer, 1, "")
				r.over = true
				return "behind"
			}
			r.inline, from = false, r.at
			if own, ok = r.words(); !ok {
				return flowOver
			}
		}
	}
	switch {
	case !r.inline && keyByRule(r.s, r.at).ok:
		r.own = own
		if r.openAt(from, false, outer) {
			return "key"
		}
		return flowOver
	case !r.inline && own == none && r.isDash():
		if !r.openAt(from, true, outer) {
			return flowOver
		}
		r.at++
		return "inside"
	case own != none && outer != none:
		if _, alone := restByRule(r.s, r.flowRule.behind); alone {
			return r.fault(10, whiteByRule(r.s, r.flowRule.behind))
		}
		return r.fault(7, from)
	case own == none:
		own = outer
	}
	return r.leaf(own)
}

func (r *blockRule) leaf(e impl.Event) string {
	r.over = false
	switch {
	case r.sees(`[|>]`):
		style := map[byte]int{'|': 4, '>': 5}[r.s[r.at]]
		x := literalByRule(r.s, r.at, r.n)
		if x.code != 0 {
			return r.fault(x.code, x.place)
		}
		r.tellText(e, style, x.text)
		r.at, r.over = x.place, true
	case r.sees(`[\[{]`):
		r.around = len(r.open)
		r.run(r.collection(e))
	case !r.scalar(e):
		return r.fault(10, r.at)
	}
	if r.out.code != 0 {
		return flowOver
	}
	return "behind"
}

// scalar reads an alias, quotes or a plain one; false where there is none of these.
func (r *blockRule) scalar(e impl.Event) bool {
	switch {
	case r.sees(`\*`):
		r.alias(e != impl.Event{}, false)
	case r.sees(`['"]`):
		style, x := 2, singleByRule(r.s, r.at)
		if r.sees(`"`) {
			style, x = 3, doubleByRule(r.s, r.at)
		}
		if x.code != 0 {
			r.fault(x.code, x.place)
			return true
		}
		r.tellText(e, style, x.text)
		r.at = x.place
	case plainFirstByRule(r.s, r.at, false):
		x := plainByRule(r.s, r.at, r.n, false)
		r.tellText(e, 1, x.text)
		r.at = x.end
	default:
		return false
	}
	return true
}

func (r *blockRule) nextKey() string {
	key := keyByRule(r.s, r.at)
	if strings.ContainsAny(r.s[r.at:r.at+1], `*'"`) {
		r.scalar(r.own)
	} else {
		r.tellText(r.own, 1, r.s[r.at:key.end])
	}
	r.at = key.colon + 1
	if r.out.code != 0 {
		return flowOver
	}
	return "inside"
}

// inside is behind a colon or a dash.
func (r *blockRule) inside() string {
	in := r.open[len(r.open)-1]
	r.n = in.col
	q, alone := restByRule(r.s, r.at)
	r.inline, r.loose = !in.list && !alone, !in.list && alone
	if !alone {
		r.at = q
		return "node"
	}
	deeper, ok := r.deeperAt(r.at)
	switch {
	case !ok:
		return flowOver
	case deeper:
		return "node"
	}
	r.tellText(impl.Event{}, 1, "")
	r.over = true
	return "behind"
}

// behindAll comes to what is next, or ends the innermost collection, and stays then.
func (r *blockRule) behindAll() string {
	if len(r.open) == 0 {
		return flowOver
	}
	back := r.at
	if q, alone := restByRule(r.s, r.at); !r.over && !alone {
		return r.fault(8, q)
	}
	if !r.comeTo(r.at) {
		return flowOver
	}
	in, col := r.open[len(r.open)-1], colByRule(r.s, r.at)
	switch {
	case r.stop() != 0 || col < in.col || col == in.col && in.list && !r.isDash():
		r.open = r.open[:len(r.open)-1]
		r.out.events = append(r.out.events, impl.Event{Kind: 7})
		r.at, r.over = back, true
		return "behind"
	case col > in.col:
		return r.fault(9, r.at)
	case in.list:
		r.at++
		return "inside"
	}
	own, ok := r.words()
	if !ok {
		return flowOver
	}
	if !keyByRule(r.s, r.at).ok {
		return r.fault(10, r.at)
	}
	r.own = own
	return "key"
}

// checkBlockNode holds BlockAt against the second telling and against P2, and counts the codes that it tells.
func checkBlockNode(t *testing.T, s string, p, n int, codes map[int]int) {
	t.Helper()
	got := blockAt(s, p, n)
	if want := blockNodeByRule(s, p, n); !got.same(want) {
		t.Fatalf("BlockAt(%q, %d, %d) is\n\t%s, not\n\t%s", s, p, n, got.brief(), want.brief())
	}
	if wrong := nestFault(s, got); wrong != "" {
		t.Fatalf("BlockAt(%q, %d, %d) is\n\t%s: %s", s, p, n, got.brief(), wrong)
	}
	if got.code == 1 || got.code == 13 || got.code < 0 || got.code > 16 {
		t.Fatalf("BlockAt(%q, %d, %d) has the code %d", s, p, n, got.code)
	}
	codes[got.code]++
}

func wantCodes(t *testing.T, codes map[int]int, l ...int) {
	t.Helper()
	for _, code := range l {
		if codes[code] < 20 {
			t.Errorf("code %d was met %d times", code, codes[code])
		}
	}
}

// P2, P9: BlockAt answers by its rule, and what it tells is a node or the beginning of one, for many texts.
func TestBlockOfManyTexts(t *testing.T) {
	codes := map[int]int{}
	check := func(s string) { checkBlockNode(t, s, 0, -1, codes) }
	eachText([]string{"a", ":", "-", " ", "\n", "'"}, 6, check)
	eachText([]string{"a: ", "- ", "a", "\n", " ", "&a ", "&b", "*a ", "|"}, 5, check)
	eachText([]string{"a:\n", "-\n", "- ", " ", "&x\n", "!t ", "b", "'c'", "\n", "\t"}, 4, check)
	eachText([]string{"-", "?", ":", ",", "[", "}", " ", "\n"}, 5, check)
	eachText([]string{"a: b\n", "- [", "]", "{c: d}", " ", " #r\n", "\n---\n", "|-\n", "*x : ", "!!", "\"\\q\""}, 4, check)
	wantCodes(t, codes, 0, 2, 3, 4, 5, 6, 7, 8, 9, 10, 14, 15, 16)
}

// P2, P9: the same of texts of whole lines, in several columns.
func TestBlockOfManyLines(t *testing.T) {
	codes := map[int]int{}
	check := func(s string) { checkBlockNode(t, s, 0, -1, codes) }
	lines := []string{"a:\n", " b:\n", "  c: d\n", "- \n", "- e\n", " - f: g\n", "   h\n", "- - i\n", "  - 'j'\n", "\n"}
	eachText(lines, 5, check)
	lines = []string{"a: &x\n", "&y\n", " &z b:\n", "  !t c: d\n", "- &w\n", " - *x\n", "  &v |\n", "   e\n", "*w : f\n", "- &u *w\n", "...\n", "\tg\n"}
	eachText(lines, 4, check)
	wantCodes(t, codes, 0, 2, 4, 7, 8, 9, 10, 14, 16)
}

// P2, P9: the same at every place of many texts and outside of them, with n of each kind.
func TestBlockAtManyPlaces(t *testing.T) {
	codes := map[int]int{}
	check := func(s string) {
		for p := -1; p <= len(s)+1; p++ {
			for _, n := range []int{-1, 0, 1, 2, 5} {
				checkBlockNode(t, s, p, n, codes)
			}
		}
	}
	eachText([]string{"a:\n", "- ", " ", "&x\n", "b", "|\n", "'c'\n", "\t"}, 3, check)
	eachText([]string{"- a\n", "  b: c\n", "&x ", " d\n", "\x00", "\xff\n", "# r\n", "[", "---\n"}, 3, check)
	long := "a: &x\n  - b: 'c'\n    d: |\n     e\n  - *x # r\n  -\n&y f:\n- {g: [h]}\n- !t\n  i: >2-\n      j\n---\nk: l"
	for _, n := range []int{lowest, -1, 0, 1, 2, 3, 60000, highest} {
		for p := -1; p <= len(long)+1; p++ {
			checkBlockNode(t, long, p, n, codes)
		}
	}
	wantCodes(t, codes, 0, 2, 3, 4, 8, 9, 10)
}

// P2, P9: the same of texts by chance, of lines in all columns.
func TestBlockOfLinesByChance(t *testing.T) {
	codes := map[int]int{}
	r := chance(11)
	things := []string{"k:", "k: a", "k: &a", "k: &a b", "k: *a", "'k': |", "k: >1-", "k: [a, b]", "k: {a: b}", "k: 'a", "b'", "*a :", "*a : b", "&b k: c", "!t k:", "-", "- a", "- - b", "- k:", "- k: c", "- &a", "- &a k: b", "- *a", "- !t *a", "- |", "- [a", "]", "- 'b'", "a", "a b", "# r", "", "&b", "!t", "&b !t c", "k: a # r", "- # r", "k: |x", "---", "\tk: a"}
	for range 25000 {
		s := ""
		for range 1 + r.IntN(7) {
			s += strings.Repeat(" ", max(0, r.IntN(6)-1)) + things[r.IntN(len(things))] + "\n"
		}
		checkBlockNode(t, s, 0, r.IntN(4)-1, codes)
		checkBlockNode(t, strings.Repeat("- ", 36)+"k:\n"+strings.Repeat(" ", 73)+strings.ReplaceAll(s, "\n", "\n"+strings.Repeat(" ", 73)), 0, -1, codes)
	}
	wantCodes(t, codes, 0, 2, 3, 4, 6, 7, 8, 9, 10, 11, 12, 14, 16)
}

// P2, P9: the same of pieces by chance, behind as many collections as may be open, or nearly so.
func TestBlockOfDeepTexts(t *testing.T) {
	codes := map[int]int{}
	r := chance(12)
	inner := []string{"- ", "- ", "-\n", "k: ", "k:\n", "'k' : ", "[", "]", "{k: ", "}", ", ", "a", "'b'", "&a ", "&b\n", "!t ", "*a", "*a : ", "|\n", ">+1\n", " # r\n", "\n", "\n", "\n ", "\n  ", "\n   ", "\t"}
	for range 3000 {
		s := ""
		for range r.IntN(16) {
			s += inner[r.IntN(len(inner))]
		}
		checkBlockNode(t, s, 0, -1, codes)
		deep, _, col := deepBlock(35+r.IntN(6), []string{"q", "m", "qm"}[r.IntN(3)], "")
		checkBlockNode(t, deep+s, 0, -1, codes)
		checkBlockNode(t, deep+s+"\n"+strings.Repeat(" ", r.IntN(col+1))+s, 0, -1, codes)
	}
	wantCodes(t, codes, 0, 3, 8, 9, 10, 12)
}

// keysAreScalars tells whether no key of the node of these letters is a collection.
func keysAreScalars(letters string) bool {
	var open []byte
	var kids []int
	for i := range len(letters) {
		last := len(open) - 1
		if letters[i] == 'e' {
			open, kids = open[:last], kids[:last]
			continue
		}
		if last >= 0 {
			if open[last] == 'm' && kids[last]%2 == 0 && letters[i] != 'v' {
				return false
			}
			kids[last]++
		}
		if letters[i] != 'v' {
			open, kids = append(open, letters[i]), append(kids, 0)
		}
	}
	return true
}

// blockScribe writes a node of which the letters of nodesOf tell, in the block style where it can, and what is to be told of it.
type blockScribe struct {
	r       *rand.Rand
	letters string
	text    string
	events  []impl.Event
	ended   []string // the anchors of nodes that are ended
	names   int
	place   int  // behind the last node
	atLine  bool // a block scalar was the last thing, so that a line begins here
}

func (w *blockScribe) oneOf(l ...string) string {
	return l[w.r.IntN(len(l))]
}

func (w *blockScribe) white() {
	w.text += w.oneOf(" ", " ", "   ", "\t", " \t")
}

// lineEnd writes what may stand on a line behind its last thing.
func (w *blockScribe) lineEnd() {
	w.text += w.oneOf("", "", " ", "\t", " # r: - [", "  #")
}

// newLine goes to a column on a later line.
func (w *blockScribe) newLine(col int) {
	if w.atLine {
		w.text += w.oneOf("", "", "# r\n")
	} else {
		w.text += "\n" + w.oneOf("", "", "", "\n", "# r\n", "  # r\n\n", "\t\n", " \n\t# r\n")
	}
	w.text += strings.Repeat(" ", col)
	w.atLine = false
}

func (w *blockScribe) column() int {
	return len(w.text) - strings.LastIndex(w.text, "\n") - 1
}

// own makes properties, or none, and their text.
func (w *blockScribe) own() (impl.Event, string) {
	f := &flowScribe{r: w.r, names: w.names}
	e := f.own()
	w.names = f.names
	return e, strings.TrimRight(f.text, " ")
}

func (w *blockScribe) tell(e impl.Event) {
	w.events = append(w.events, e)
	w.place = len(w.text)
}

func (w *blockScribe) end(e impl.Event) {
	if e.Anchor != "" {
		w.ended = append(w.ended, e.Anchor)
	}
}

// node writes a node deeper than the column n: at the beginning of a line, behind a dash, a colon or the mark of a document.
func (w *blockScribe) node(n int, spot string) {
	e, words := w.own()
	block := w.letters[0] != 'v' && w.letters[1] != 'e' && w.r.IntN(5) > 0
	if !block && words == "" && spot != "line" && w.letters[0] == 'v' && w.r.IntN(4) == 0 {
		w.nothing(e)
		return
	}
	// The column in which a list may be of which the sign is ahead on another line.
	least := n + 1
	if spot == "colon" && block && w.letters[0] == 'q' {
		least = n
	}
	switch {
	case spot == "line":
		least = n + 1
	case spot != "dash" && block && words == "" || w.r.IntN(3) == 0:
		w.lineEnd()
		if words != "" {
			w.newLine(n + 1 + w.r.IntN(3))
		} else {
			w.newLine(least + w.r.IntN(3))
		}
	default:
		least = n + 1
		w.white()
	}
	if words != "" {
		w.text += words
		if w.letters[0] == 'v' && w.r.IntN(5) == 0 {
			w.nothing(e)
			return
		}
		if block || w.r.IntN(3) == 0 {
			w.lineEnd()
			w.newLine(least + w.r.IntN(3))
		} else {
			w.white()
		}
	}
	switch {
	case block:
		w.collection(e)
	case w.letters[0] != 'v':
		w.flow(e)
	default:
		w.letters = w.letters[1:]
		w.scalar(e, n)
	}
}

// nothing is told at the end of its line.
func (w *blockScribe) nothing(e impl.Event) {
	w.letters = w.letters[1:]
	w.lineEnd()
	e.Kind, e.Style = impl.EvText, impl.StPlain
	w.tell(e)
	w.end(e)
}

func (w *blockScribe) collection(e impl.Event) {
	list, col := w.letters[0] == 'q', w.column()
	e.Kind, e.Style = map[bool]int{true: impl.EvSeq, false: impl.EvMap}[list], impl.StBlock
	w.events = append(w.events, e)
	w.letters = w.letters[1:]
	for first := true; w.letters[0] != 'e'; first = false {
		if !first {
			w.newLine(col)
		}
		if list {
			w.text += "-"
			w.node(col, "dash")
		} else {
			w.key()
			w.node(col, "colon")
		}
	}
	w.letters = w.letters[1:]
	w.events = append(w.events, impl.Event{Kind: impl.EvEnd})
	w.end(e)
}

func (w *blockScribe) key() {
	w.letters = w.letters[1:]
	e, words := w.own()
	if words != "" {
		w.text += words
		w.white()
	}
	w.oneLine(e)
	w.text += w.oneOf("", " ", " \t")
	// The name of an alias would take the colon in.
	if last := w.events[len(w.events)-1]; last.Kind == impl.EvAlias {
		w.text += " "
	}
	w.text += ":"
}

// oneLine writes an alias, a scalar in quotes or a plain one.
func (w *blockScribe) oneLine(e impl.Event) {
	owned := e != impl.Event{}
	choice := w.r.IntN(4)
	e.Kind = impl.EvText
	switch {
	case choice == 0 && !owned && len(w.ended) > 0:
		e = impl.Event{Kind: impl.EvAlias, Text: w.oneOf(w.ended...)}
		w.text += "*" + e.Text
	case choice == 1:
		e.Style, e.Text = impl.StSingle, "it's: - # c"
		w.text += "'" + singleBody(e.Text) + "'"
	case choice == 2:
		e.Style, e.Text = impl.StDouble, "a\n\"b\": "
		w.text += `"` + doubleBody(e.Text) + `"`
	default:
		e.Style, e.Text = impl.StPlain, w.oneOf("p:q#r, [s] -t", "-x", "---y ...", "?u")
		w.text += e.Text
	}
	w.tell(e)
	w.end(e)
}

func (w *blockScribe) scalar(e impl.Event, n int) {
	deep := strings.Repeat(" ", n+1+w.r.IntN(3))
	switch w.r.IntN(6) {
	case 0:
		e.Style, e.Text = impl.StPlain, "a- b:c\nd e"
		w.text += "a-\n" + deep + "b:c \n\n" + deep + "d\n" + deep + "e"
	case 1:
		e.Style, e.Text = impl.StSingle, "a b: c\n- d"
		w.text += "'a\n" + w.oneOf("", " ", "\t") + "b: c\n\n  - d'"
	case 2:
		e.Style, e.Text = impl.StDouble, "a  b\n# c"
		w.text += "\"a \\\n" + w.oneOf("", " ", "\t") + "\\ b\\n# c\""
	case 3:
		w.literal(e, deep)
		return
	default:
		w.oneLine(e)
		w.lineEnd()
		return
	}
	e.Kind = impl.EvText
	w.tell(e)
	w.end(e)
	w.lineEnd()
}

func (w *blockScribe) literal(e impl.Event, deep string) {
	lines := [][]string{{"a", "b: c", "- d"}, {"a", "", " b", "c"}, {"# a", "", ""}, {"'a"}, {"a", "b", "", "", "c", ""}}[w.r.IntN(5)]
	folded, chomp := w.r.IntN(2) == 0, w.r.IntN(3)
	e.Kind, e.Style, e.Text = impl.EvText, map[bool]int{false: impl.StLiteral, true: impl.StFolded}[folded], blockByRule(lines, folded, chomp)
	w.text += map[bool]string{false: "|", true: ">"}[folded] + []string{"", "-", "+"}[chomp] + w.oneOf("", " ", " # r") + "\n"
	for _, line := range lines {
		if line != "" {
			line = deep + line
		}
		w.text += line + "\n"
	}
	w.atLine = true
	w.tell(e)
	w.end(e)
}

// flow tries until the node comes without properties: those of e are written ahead of it already.
func (w *blockScribe) flow(e impl.Event) {
	var f *flowScribe
	for f == nil || f.events[0].Anchor+f.events[0].Tag != "" {
		f = &flowScribe{r: w.r, gaps: []string{"", " ", "\n", "\n\t", " # r\n"}, letters: w.letters, ended: w.ended, names: w.names}
		f.node(false)
	}
	f.events[0].Anchor, f.events[0].Tag = e.Anchor, e.Tag
	w.text += f.text
	w.events = append(w.events, f.events...)
	w.letters, w.ended, w.names, w.place = f.letters, f.ended, f.names, len(w.text)
	w.end(e)
	w.lineEnd()
}

// writtenBlocks hands on each node that is written in several ways: the text, the column than which it is deeper, and what is to be told of it.
func writtenBlocks(most, forms int, f func(w *blockScribe, n int)) {
	for i, letters := range nodesOf(most) {
		if !keysAreScalars(letters) {
			continue
		}
		for form := range forms {
			w := &blockScribe{r: chance(uint64(forms*i + form)), letters: letters}
			col := w.r.IntN(4)
			n := w.r.IntN(col+1) - 1
			w.text = w.oneOf("", "", "# r\n", "\n \n") + strings.Repeat(" ", col)
			w.node(n, "line")
			f(w, n)
		}
	}
}

// P9: nodes are read as they were written, by lines and on one line, with properties at all their places.
func TestBlockNodesAreReadAsWritten(t *testing.T) {
	count, styles := 0, map[int]int{}
	writtenBlocks(10, 20, func(w *blockScribe, n int) {
		ends := []string{"", "\n", "\n---\n", "\n\n# r\n", "\n...", "\n\t"}
		if w.atLine {
			ends = []string{"", "---", "...\n"}
		}
		want := nodeTold{w.events, w.place, 0}
		for _, end := range ends {
			if got := blockAt(w.text+end, 0, n); !got.same(want) {
				t.Fatalf("BlockAt(%q, 0, %d) is\n\t%s, not\n\t%s", w.text+end, n, got.brief(), want.brief())
			}
		}
		count++
		for _, e := range w.events {
			styles[e.Style]++
		}
	})
	for style := 1; style <= 7; style++ {
		if styles[style] < 1000 {
			t.Errorf("of %d nodes the style %d stands %d times", count, style, styles[style])
		}
	}
}

// P2: a node that is cut off anywhere is a node, or the beginning of one.
func TestBlockNodesThatAreCutOff(t *testing.T) {
	writtenBlocks(8, 6, func(w *blockScribe, n int) {
		for cut := range len(w.text) {
			s := w.text[:cut]
			if wrong := nestFault(s, blockAt(s, 0, n)); wrong != "" {
				t.Fatalf("BlockAt(%q, 0, %d) is %s: %s", s, n, blockAt(s, 0, n).brief(), wrong)
			}
		}
	})
}

// Chapter 1: an answer is new memory, and hangs on the arguments alone.
func TestBlockKeepsNothing(t *testing.T) {
	texts := []string{"- &a x\n- *a", "*a : b", "- *a", "a: |\n b", "- - - -", "&a\n&b c: *b", "a:\n\tb", "", "a: [b", "'a'"}
	checkKeepsNothing(t, texts, func(s string) nodeTold { return blockAt(s, 0, -1) })
}

// Every call ends, in time, also for great texts.
func TestGreatBlocks(t *testing.T) {
	const many = 100000
	check := func(s string, events, place, code int) {
		t.Helper()
		a := blockAt(s, 0, -1)
		if len(a.events) != events || a.place != place || a.code != code {
			t.Errorf("BlockAt of %q .. of %d bytes has %d events, place %d, code %d; not %d, %d, %d", s[:8], len(s), len(a.events), a.place, a.code, events, place, code)
		}
	}
	lines := func(line string, events int) {
		t.Helper()
		s := strings.Repeat(line, many)
		check(s, many*events+2, len(s)-1, 0)
		check(s+"---\n"+s, many*events+2, len(s)-1, 0)
	}
	lines("a: b\n", 2)
	lines("- a\n", 1)
	lines("a:\n", 2)
	lines("-\n", 1)
	lines("- - a\n", 3)
	lines("- a: b\n", 4)
	lines("a:\n- b\n", 4)
	lines("'a': \"b\"\n", 2)
	lines("&a b: *a\n", 2)
	lines("- !t [a, {b: c}]\n", 7)
	lines("- &a\n", 1)
	lines("- a\n\n# r\n- b\n", 2)
	check(strings.Repeat("- |\n a\n", many), many+2, 7*many, 0)
	check(strings.Repeat("- ", many), 40, 80, 12)
	check("a: "+strings.Repeat("b ", many), 4, 2*many+2, 0)
	check("a: 'b'"+strings.Repeat(" ", many)+"c", 3, many+6, 8)
	check("a: 'b'\n"+strings.Repeat(" ", many)+"c", 3, many+7, 9)
	check("a: 'b'"+strings.Repeat("\n", many)+"\tc", 3, many+6, 2)
	check("'"+strings.Repeat("a\n", many)+"': b", 1, 2*many+2, 0)
	check(strings.Repeat("a", many)+": b", 1, many, 0)
	check(strings.Repeat("- ", 40)+"a"+strings.Repeat("\n# r", many), 81, 81, 0)
	check(strings.Repeat("&a\n", many), 0, 5, 10)
	var names strings.Builder
	for i := range many {
		fmt.Fprintf(&names, "- &n%d x\n- *n%d\n", i, i/2)
	}
	check(names.String(), 2*many+2, names.Len()-1, 0)
}
