package tests

import (
	"fmt"
	"math/rand/v2"
	"regexp"
	"slices"
	"strings"
	"testing"

	"loop.example/g00666/impl"
)

// nodeTold is what FlowAt and BlockAt answer.
type nodeTold struct {
	events      []impl.Event
	place, code int
}

func flowAt(s string, p int) nodeTold {
	l, place, code := impl.FlowAt(s, p)
	return nodeTold{l, place, code}
}

func (a nodeTold) same(b nodeTold) bool {
	return slices.Equal(a.events, b.events) && a.place == b.place && a.code == b.code
}

// brief writes each event as a word, and then @ and the place behind the node, or ! and the code, @ and the place of the fault.
// An end is a /, a blank within a text a _, and a break a ~.
func (a nodeTold) brief() string {
	out := ""
	for _, e := range a.events {
		out += briefEvent(e) + " "
	}
	if a.code != 0 {
		out += fmt.Sprintf("!%d", a.code)
	}
	return out + fmt.Sprintf("@%d", a.place)
}

// briefEvent shows an event whole that has other fields than its kind. A block list or map is told from one in the flow style by a dash.
func briefEvent(e impl.Event) string {
	word := ""
	switch e {
	case impl.Event{Kind: impl.EvEnd}:
		return "/"
	case impl.Event{Kind: impl.EvAlias, Text: e.Text}:
		return "*" + e.Text
	case impl.Event{Kind: impl.EvSeq, Style: impl.StFlow, Anchor: e.Anchor, Tag: e.Tag}:
		word = "["
	case impl.Event{Kind: impl.EvMap, Style: impl.StFlow, Anchor: e.Anchor, Tag: e.Tag}:
		word = "{"
	case impl.Event{Kind: impl.EvSeq, Style: impl.StBlock, Anchor: e.Anchor, Tag: e.Tag}:
		word = "-["
	case impl.Event{Kind: impl.EvMap, Style: impl.StBlock, Anchor: e.Anchor, Tag: e.Tag}:
		word = "-{"
	case impl.Event{Kind: impl.EvText, Style: impl.StLiteral, Text: e.Text, Anchor: e.Anchor, Tag: e.Tag}:
		word = "|" + e.Text
	case impl.Event{Kind: impl.EvText, Style: impl.StFolded, Text: e.Text, Anchor: e.Anchor, Tag: e.Tag}:
		word = ">" + e.Text
	case impl.Event{Kind: impl.EvText, Style: impl.StPlain, Text: e.Text, Anchor: e.Anchor, Tag: e.Tag}:
		word = ":" + e.Text
	case impl.Event{Kind: impl.EvText, Style: impl.StSingle, Text: e.Text, Anchor: e.Anchor, Tag: e.Tag}:
		word = "'" + e.Text
	case impl.Event{Kind: impl.EvText, Style: impl.StDouble, Text: e.Text, Anchor: e.Anchor, Tag: e.Tag}:
		word = `"` + e.Text
	default:
		return fmt.Sprintf("%#v", e)
	}
	word = strings.NewReplacer(" ", "_", "\n", "~").Replace(word)
	if e.Tag != "" {
		word = "<" + e.Tag + ">" + word
	}
	if e.Anchor != "" {
		word = "&" + e.Anchor + word
	}
	return word
}

// flowCase is a text, and what FlowAt must answer at its beginning.
type flowCase struct{ s, want string }

func checkFlows(t *testing.T, l []flowCase) {
	t.Helper()
	for _, c := range l {
		if got := flowAt(c.s, 0).brief(); got != c.want {
			t.Errorf("FlowAt(%q, 0) is\n\t%s, not\n\t%s", c.s, got, c.want)
		}
	}
}

func TestFlowConstants(t *testing.T) {
	if impl.MaxDepth != 40 {
		t.Error("MaxDepth", impl.MaxDepth)
	}
}

// P9: lists, maps, aliases and scalars of each style, one in another.
func TestFlowNodes(t *testing.T) {
	checkFlows(t, []flowCase{
		// Scalars that stand alone.
		{"a", ":a @1"}, {"a b c", ":a_b_c @5"}, {"'a b'", "'a_b @5"}, {`"a\tb"`, "\"a\tb @6"}, {"''", "' @2"}, {`""`, `" @2`}, {"-a", ":-a @2"}, {"?a", ":?a @2"}, {":a", "::a @2"}, {"a:b", ":a:b @3"}, {"---a", ":---a @4"}, {"....", ":.... @4"},
		// What is behind the node doesn't count.
		{"a]", ":a @1"}, {"a, b", ":a @1"}, {"a: b", ":a @1"}, {"a #r", ":a @1"}, {"a}", ":a @1"}, {"a[", ":a @1"}, {"a{", ":a @1"}, {"'a'b", "'a @3"}, {"'a' : b", "'a @3"}, {"[a] b", "[ :a / @3"}, {"[] ]", "[ / @2"}, {"{}}", "{ / @2"}, {"[][", "[ / @2"}, {"{},", "{ / @2"},
		{"[]\n---\n", "[ / @2"}, {"a\n---\n", ":a @1"}, {"'a'\n...", "'a @3"}, {"a  \n", ":a @1"}, {"[] *a", "[ / @2"}, {"{}&", "{ / @2"},
		// Lists.
		{"[]", "[ / @2"}, {"[a]", "[ :a / @3"}, {"[a,b]", "[ :a :b / @5"}, {"[a, b, c]", "[ :a :b :c / @9"}, {"[ a , b ]", "[ :a :b / @9"}, {"[a b, c d]", "[ :a_b :c_d / @10"}, {`['a', "b", c]`, `[ 'a "b :c / @13`}, {`['a',"b",c]`, `[ 'a "b :c / @11`}, {"[-a, ?b, :c]", "[ :-a :?b ::c / @12"}, {"[a:b, c#d]", "[ :a:b :c#d / @10"},
		// Maps.
		{"{}", "{ / @2"}, {"{a: b}", "{ :a :b / @6"}, {"{a: b, c: d}", "{ :a :b :c :d / @12"}, {"{a: b,c: d}", "{ :a :b :c :d / @11"}, {`{'a': 'b', "c": "d"}`, `{ 'a 'b "c "d / @20`}, {"{ a : b , c : d }", "{ :a :b :c :d / @17"}, {"{a b: c d}", "{ :a_b :c_d / @10"}, {"{a:\tb}", "{ :a :b / @6"}, {"{a:\nb}", "{ :a :b / @6"}, {"{a}", "{ :a : / @3"}, {"{a, b}", "{ :a : :b : / @6"},
		// One in another.
		{"[[]]", "[ [ / / @4"}, {"[{}]", "[ { / / @4"}, {"[[], {}, []]", "[ [ / { / [ / / @12"}, {"[[a], [b, [c]]]", "[ [ :a / [ :b [ :c / / / @15"}, {"{a: []}", "{ :a [ / / @7"}, {"{a: {}}", "{ :a { / / @7"}, {"{a: {b: [c, {d: e}]}}", "{ :a { :b [ :c { :d :e / / / / @21"},
		{"[{a: b}, {c: d}]", "[ { :a :b / { :c :d / / @16"}, {"{a: [b], c}", "{ :a [ :b / :c : / @11"}, {"{a: {b}, c}", "{ :a { :b : / :c : / @11"}, {"[[[a]]]", "[ [ [ :a / / / @7"},
		// Aliases.
		{"[&a x, *a]", "[ &a:x *a / @10"}, {"[&a [], *a, *a]", "[ &a[ / *a *a / @15"}, {"{&a x: *a}", "{ &a:x *a / @10"}, {"{x: &a y, *a : z}", "{ :x &a:y *a :z / @17"}, {"{x: &a {y: z}, w: *a}", "{ :x &a{ :y :z / :w *a / @21"},
	})
}

// P9: gaps within a collection go over lines and remarks; one ahead of the node isn't part of it.
func TestFlowGaps(t *testing.T) {
	checkFlows(t, []flowCase{
		{"  a", ":a @3"}, {"\n\n\ta", ":a @4"}, {"# r\na", ":a @5"}, {" # r\n # q\n [a]", "[ :a / @14"}, {" ---", ":--- @4"}, {" ... a", ":..._a @6"},
		{"[ \t\n a\n ,\n\n b \n]", "[ :a :b / @16"}, {"[\na,\nb\n]", "[ :a :b / @8"}, {"[ # r\n]", "[ / @7"}, {"[ # ]\n]", "[ / @7"}, {"[\n#]\n]", "[ / @6"}, {"[a # r\n, b # q\n] # p", "[ :a :b / @16"}, {"['a' # r\n]", "[ 'a / @10"}, {"[\n# r\n# q\na\n# p\n,\n#\n]", "[ :a / @21"},
		{"{\na\n:\nb\n,\nc\n}", "{ :a :b :c : / @13"}, {"{ # r\na # q\n: # p\nb # o\n, # n\nc # m\n}", "{ :a :b :c : / @37"}, {"{'a' # r\n:b}", "{ 'a :b / @12"}, {"{a: # r\n}", "{ :a : / @9"},
		// A # with no white ahead of it is no remark.
		{"[# r\n]", "[ !10@1"}, {"[a,# r\n]", "[ :a !10@3"}, {"['a'# r\n]", "[ 'a !11@4"}, {"[[]# r\n]", "[ [ / !11@3"}, {"{# r\n}", "{ !10@1"}, {"{'a'# r\n: b}", "{ 'a : !11@4"}, {"{'a':# r\n}", "{ 'a !10@5"}, {"{a:# r\n}", "{ :a:#_r : / @8"}, {"[a# r]", "[ :a#_r / @6"},
		// Plain scalars and those in quotes go over lines; columns don't count.
		{"a\nb", ":a_b @3"}, {"a\n\n b\n", ":a~b @5"}, {"[a\nb,\nc\n\n\nd]", "[ :a_b :c~~d / @12"}, {"{a\nb: c\nd}", "{ :a_b :c_d / @10"}, {"['a\nb', \"c\n\nd\"]", "[ 'a_b \"c~d / @15"}, {"   [\na\n]", "[ :a / @8"}, {"[a\n# r\n]", "[ :a / @8"}, {"[a\n# r\nb]", "[ :a !11@7"}, {"{'a\nb': c}", "{ 'a_b :c / @10"},
		// What is no mark, as it isn't at the beginning of a line, or no gap is behind it.
		{"[a\n---]", "[ :a_--- / @7"}, {"[---]", "[ :--- / @5"}, {"[--- ]", "[ :--- / @6"}, {"[a,\n---b]", "[ :a :---b / @9"}, {"[\n ---\n]", "[ :--- / @8"}, {"[\n...]", "[ :... / @6"}, {"{\n---: a}", "{ :--- :a / @9"}, {"[\n-- ]", "[ :-- / @6"},
	})
}

// P9: a stop is a fault at once, within a list and a map, and behind what stands in them; what was told stays told.
func TestFlowStops(t *testing.T) {
	stops := []struct {
		s        string
		at, code int
	}{
		{"", 0, 3}, {" ", 1, 3}, {"\t\n ", 3, 3}, {"\n", 1, 3}, {" # r", 4, 3}, {"\n# r\n", 5, 3},
		{"\n---", 1, 4}, {"\n...", 1, 4}, {"\n--- ]", 1, 4}, {"\n...\t}", 1, 4}, {"\n---\n]", 1, 4}, {"\n...\n}", 1, 4}, {" # r\n\n  \n... ]}", 9, 4}, {"\n\n---\n...\n", 2, 4}, {" #\n--- : x", 3, 4},
	}
	for _, c := range []struct{ s, told string }{
		// At once.
		{"", ""}, {" \n", ""},
		// Within a list.
		{"[", "[ "}, {"[a", "[ :a "}, {"[a,", "[ :a "}, {"['a'", "[ 'a "}, {`["a"`, `[ "a `}, {"[[", "[ [ "}, {"[[]", "[ [ / "}, {"[{", "[ { "}, {"[{}", "[ { / "}, {"[&a x", "[ &a:x "}, {"[&a x, *a", "[ &a:x *a "}, {"[&a ,", "[ &a: "}, {"[&a,", "[ &a: "},
		// Behind properties.
		{"[&a", "[ "}, {"[!t", "[ "}, {"[!", "[ "}, {"[!<u>", "[ "}, {"[&a !t", "[ "}, {"[!t &a", "[ "}, {"{&a", "{ "}, {"{!t", "{ "}, {"{&a !t", "{ "}, {"{a: &b", "{ :a "}, {"{a: !t &b", "{ :a "}, {"[a, &b", "[ :a "},
		// Within a map.
		{"{", "{ "}, {"{a,", "{ :a : "}, {"{a: b", "{ :a :b "}, {"{a: b,", "{ :a :b "}, {"{a: []", "{ :a [ / "}, {"{a: [", "{ :a [ "}, {"{a: {", "{ :a { "}, {"{a: 'b'", "{ :a 'b "}, {"{a: &b ,", "{ :a &b: "},
		// Behind a key: whether there is a value isn't known yet.
		{"{a", "{ :a "}, {"{'a'", "{ 'a "}, {`{"a"`, `{ "a `}, {"{&a x", "{ &a:x "}, {"{x: &a y, *a", "{ :x &a:y *a "}, {"{a: b, c", "{ :a :b :c "}, {"[{a", "[ { :a "},
		// Behind its colon.
		{"{'a':", "{ 'a "}, {"{a : ", "{ :a "}, {"{a\n: ", "{ :a "}, {"{&a : ", "{ &a: "}, {"{x: &a y, *a : ", "{ :x &a:y *a "},
		{"{a:", "{ :a "}, {"{'a' :", "{ 'a "}, {"{&a :", "{ &a: "},
	} {
		for _, stop := range stops {
			checkFlows(t, []flowCase{{c.s + stop.s, fmt.Sprintf("%s!%d@%d", c.told, stop.code, len(c.s)+stop.at)}})
		}
	}
	checkFlows(t, []flowCase{
		{"---", "!4@0"}, {"...", "!4@0"}, {"--- a", "!4@0"}, {"...\ta", "!4@0"}, {"---\na", "!4@0"}, {"---\n---", "!4@0"}, {"\n--- []", "!4@1"}, {"# r\n...", "!4@4"},
		// Outside of a collection the reader stays on the line of the properties: a break behind them is no stop.
		{"&a", "!3@2"}, {"&a  ", "!3@4"}, {"!t", "!3@2"}, {"!", "!3@1"}, {"!<u>", "!3@4"}, {"&a !t", "!3@5"}, {"!t\t&a\t", "!3@6"},
		{"&a\n", "!10@2"}, {"&a \n---", "!10@3"}, {"&a\n...", "!10@2"}, {"&a\nb", "!10@2"}, {"&a\n[]", "!10@2"}, {"!t\n&a x", "!10@2"}, {"!t # r", "!10@3"}, {"&a # r\n---", "!10@3"},
	})
}

// P9: properties, alone and both, in either order.
func TestFlowProperties(t *testing.T) {
	checkFlows(t, []flowCase{
		{"&a x", "&a:x @4"}, {"!t x", "<!t>:x @4"}, {"&a !t x", "&a<!t>:x @7"}, {"!t &a x", "&a<!t>:x @7"}, {"&a\t!t \t x", "&a<!t>:x @9"}, {"&a []", "&a[ / @5"}, {"!t {}", "<!t>{ / @5"}, {"&a !t [x]", "&a<!t>[ :x / @9"}, {"!t &a {x: y}", "&a<!t>{ :x :y / @12"}, {"&a 'x'", "&a'x @6"}, {`&a !t "x"`, `&a<!t>"x @9`}, {"! ''", "<!>' @4"},
		{"!!str x", "<tag:yaml.org,2002:str>:x @7"}, {"! x", "<!>:x @3"}, {"!<u> x", "<u>:x @6"}, {"!<a,b> x", "<a,b>:x @8"}, {"!<[]{}> x", "<[]{}>:x @9"}, {"!<!> x", "<!>:x @6"}, {"!<> x", "<!<>>:x @5"}, {"!<a b> x", "<!<a>:b>_x @8"}, {"!a&b x", "<!a&b>:x @6"},
		{"&a:b x", "&a:b:x @6"}, {"&a&b x", "&a&b:x @6"}, {"&! x", "&!:x @4"}, {"&a!t x", "&a!t:x @6"}, {"&*a x", "&*a:x @5"}, {"&& x", "&&:x @4"},
		{"[&a x, !t y, &b !u z]", "[ &a:x <!t>:y &b<!u>:z / @21"}, {"[&a\nx]", "[ &a:x / @6"}, {"[!t\n# r\n&a\n\nx]", "[ &a<!t>:x / @14"}, {"[ &a # r\n x]", "[ &a:x / @12"}, {"[&a [], !t {}]", "[ &a[ / <!t>{ / / @14"}, {"[!!int 1]", "[ <tag:yaml.org,2002:int>:1 / @9"},
		{"{&a x: &b y}", "{ &a:x &b:y / @12"}, {"{!t x: !u y}", "{ <!t>:x <!u>:y / @12"}, {"{!t &a x : &b !u y}", "{ &a<!t>:x &b<!u>:y / @19"}, {"{&a\nx\n:\n&b\ny}", "{ &a:x &b:y / @13"}, {"{&a 'x':!t 'y'}", "{ &a'x <!t>'y / @15"}, {"{x: &a []}", "{ :x &a[ / / @10"}, {"{x: !t {}}", "{ :x <!t>{ / / @10"},
		// The same again at another node.
		{"[&a x, &a y]", "[ &a:x &a:y / @12"}, {"&a [&a x]", "&a[ &a:x / @9"}, {"!t [!t x]", "<!t>[ <!t>:x / @9"}, {"{&a x: &a y}", "{ &a:x &a:y / @12"}, {"&a {&b x: !t y}", "&a{ &b:x <!t>:y / @15"},
	})
}

// P9: with no gap directly behind a property; a flow sign there will do within a collection, but not outside of one.
func TestFlowBehindProperties(t *testing.T) {
	checkFlows(t, []flowCase{
		{"&a[]", "!7@0"}, {"&a{}", "!7@0"}, {"&a,", "!7@0"}, {"&a]", "!7@0"}, {"&a}", "!7@0"}, {"!t[]", "!7@0"}, {"!t{}", "!7@0"}, {"!t,", "!7@0"}, {"!t]", "!7@0"}, {"!t}", "!7@0"}, {"![]", "!7@0"}, {"!,", "!7@0"}, {"&a !t[]", "!7@3"}, {"!t &a[]", "!7@3"}, {"!<u>[]", "!7@0"}, {"!<u>x", "!7@0"}, {"!<u>&a x", "!7@0"}, {"!<u>!t x", "!7@0"}, {"!<u>> x", "!7@0"}, {" &a[]", "!7@1"},
		{"[&a[]]", "[ &a[ / / @6"}, {"[&a{}]", "[ &a{ / / @6"}, {"[&a,b]", "[ &a: :b / @6"}, {"[&a]", "[ &a: / @4"}, {"[!t[]]", "[ <!t>[ / / @6"}, {"[!t{}]", "[ <!t>{ / / @6"}, {"[!t,b]", "[ <!t>: :b / @6"}, {"[!t]", "[ <!t>: / @4"}, {"[![]]", "[ <!>[ / / @5"}, {"[!]", "[ <!>: / @3"}, {"[!,!]", "[ <!>: <!>: / @5"}, {"[!<u>]", "[ <u>: / @6"}, {"[!<u>[]]", "[ <u>[ / / @8"}, {"[!<u>,x]", "[ <u>: :x / @8"}, {"[&a !t]", "[ &a<!t>: / @7"}, {"[!t &a[]]", "[ &a<!t>[ / / @9"},
		{"{&a}", "{ &a: : / @4"}, {"{&a,b}", "{ &a: : :b : / @6"}, {"{!t}", "{ <!t>: : / @4"}, {"{!,}", "{ <!>: : / @4"}, {"{a: &b}", "{ :a &b: / @7"}, {"{a: &b,c}", "{ :a &b: :c : / @9"}, {"{a: &b[]}", "{ :a &b[ / / @9"}, {"{a: !{}}", "{ :a <!>{ / / @8"}, {"{a: !<u>}", "{ :a <u>: / @9"},
		{"[!<u>x]", "[ !7@1"}, {"[!<u>'x']", "[ !7@1"}, {"[!<u>&a]", "[ !7@1"}, {"[!<u>!v]", "[ !7@1"}, {"[!<u>:]", "[ !7@1"}, {"[!<u>#]", "[ !7@1"}, {"[&a !<u>x]", "[ !7@4"}, {"{!<u>x}", "{ !7@1"}, {"{!<u>: x}", "{ !7@1"}, {"{a: !<u>x}", "{ :a !7@4"},
		// The name goes up to a gap or a flow sign.
		{"[&a!t]", "[ &a!t: / @6"}, {"{&a: x}", "{ &a::x : / @7"}, {"{&a:}", "{ &a:: : / @5"}, {"{&a'x'}", "{ &a'x': : / @7"}, {"{!t: x}", "{ <!t:>:x : / @7"}, {"[&a#]", "[ &a#: / @5"},
	})
}

// P9: a second property of one kind, and one that isn't right.
func TestFlowWrongProperties(t *testing.T) {
	name := strings.Repeat("x", 60)
	core := "tag:yaml.org,2002:"
	checkFlows(t, []flowCase{
		{"&a &b x", "!7@3"}, {"&a &a x", "!7@3"}, {"!t !u x", "!7@3"}, {"! ! x", "!7@2"}, {"!t !t x", "!7@3"}, {"&a !t &b x", "!7@6"}, {"!t &a !u x", "!7@6"}, {"&a !t !u x", "!7@6"}, {"!t &a &b x", "!7@6"}, {"!<u> !<u> x", "!7@5"},
		{"[&a &b x]", "[ !7@4"}, {"[&a\n&b]", "[ !7@4"}, {"[x, !t !u]", "[ :x !7@7"}, {"{!t !u x}", "{ !7@4"}, {"{&a\n!t\n&b x}", "{ !7@7"}, {"{a: &b &c}", "{ :a !7@7"}, {"{a: !t &b !}", "{ :a !7@10"},
		// Names with no bytes and with too many.
		{"&", "!7@0"}, {"& x", "!7@0"}, {"&\tx", "!7@0"}, {"&\nx", "!7@0"}, {"&,", "!7@0"}, {"&[]", "!7@0"}, {"!t &", "!7@3"}, {"!t & x", "!7@3"}, {"[&]", "[ !7@1"}, {"[& x]", "[ !7@1"}, {"[&,]", "[ !7@1"}, {"{&}", "{ !7@1"}, {"{& x: y}", "{ !7@1"}, {"{x: &}", "{ :x !7@4"}, {"[!t &]", "[ !7@4"},
		{"&" + name + " y", "&" + name + ":y @63"}, {"&" + name + "x y", "!7@0"}, {"[&" + name + "]", "[ &" + name + ": / @63"}, {"[&" + name + "x]", "[ !7@1"}, {"{&" + name + "x : y}", "{ !7@1"},
		// Tags with too many bytes.
		{"!" + name[:59] + " y", "<!" + name[:59] + ">:y @62"}, {"!" + name + " y", "!7@0"}, {"!!" + name[:58] + " y", "<" + core + name[:58] + ">:y @62"}, {"!!" + name[:59] + " y", "!7@0"}, {"!<" + name[:57] + "> y", "<" + name[:57] + ">:y @62"}, {"!<" + name[:58] + "> y", "!7@0"}, {"[!" + name + "]", "[ !7@1"}, {"{!" + name + "}", "{ !7@1"}, {"[!<" + name + ">]", "[ !7@1"},
		// Tags that stand for nothing.
		{"!g!x y", "!15@0"}, {"!! x", "!15@0"}, {"!!", "!15@0"}, {"!g! x", "!15@0"}, {"!a!b!c x", "!15@0"}, {"!_!x y", "!15@0"}, {"!!! y", "!15@0"}, {"&a !g!x y", "!15@3"}, {"[!g!x y]", "[ !15@1"}, {"[!!]", "[ !15@1"}, {"[a, !!]", "[ :a !15@4"}, {"{!g!x : y}", "{ !15@1"}, {"{a: !! b}", "{ :a !15@4"}, {"{a: &b\n!!\nc}", "{ :a !15@7"},
		// Of two faults: a second one of its kind isn't read; how it stands there is asked ahead of what it stands for.
		{"!t !g!x y", "!7@3"}, {"!t !! y", "!7@3"}, {"&a & y", "!7@3"}, {"!t ! y", "!7@3"}, {"!g![]", "!7@0"}, {"!!,", "!7@0"}, {"!!]", "!7@0"}, {"&a !![]", "!7@3"}, {"!!" + name, "!7@0"}, {"!g!" + name + " x", "!7@0"},
		{"[!!,]", "[ !15@1"}, {"[!g!x[]]", "[ !15@1"}, {"[!g!x]", "[ !15@1"}, {"{!!}", "{ !15@1"}, {"!g!x &a &b y", "!15@0"}, {"!! !! y", "!15@0"}, {"& !! y", "!7@0"}, {"!!\n", "!15@0"}, {"!! *a", "!15@0"}, {"& *a", "!7@0"},
	})
}

// P9: lists end with a comma or without; two commas, or one at first, are faults, and so is a node that nothing parts from the next.
func TestFlowLists(t *testing.T) {
	checkFlows(t, []flowCase{
		{"[ ]", "[ / @3"}, {"[\n]", "[ / @3"}, {"[a,]", "[ :a / @4"}, {"[a , ]", "[ :a / @6"}, {"['a',]", "[ 'a / @6"}, {"[a\n,\n]", "[ :a / @6"}, {"[[],]", "[ [ / / @5"}, {"[{},]", "[ { / / @5"}, {"[a,b,]", "[ :a :b / @6"}, {"[&a ,]", "[ &a: / @6"},
		{"[,]", "[ !10@1"}, {"[ ,]", "[ !10@2"}, {"[,a]", "[ !10@1"}, {"[,,]", "[ !10@1"}, {"[a,,]", "[ :a !10@3"}, {"[a,,b]", "[ :a !10@3"}, {"[a, ,b]", "[ :a !10@4"}, {"[a,\n,]", "[ :a !10@4"}, {"[[],,]", "[ [ / !10@4"}, {"[&a,,]", "[ &a: !10@4"},
		{"['a' 'b']", "[ 'a !11@5"}, {"['a'b]", "[ 'a !11@4"}, {"['a' b]", "[ 'a !11@5"}, {"[\"a\"\"b\"]", "[ \"a !11@4"}, {"[[] []]", "[ [ / !11@4"}, {"[[][]]", "[ [ / !11@3"}, {"[{}a]", "[ { / !11@3"}, {"[a[]]", "[ :a !11@2"}, {"[a{}]", "[ :a !11@2"}, {"[a []]", "[ :a !11@3"}, {"[a: b]", "[ :a !11@2"}, {"[a:]", "[ :a !11@2"}, {"[a : b]", "[ :a !11@3"}, {"['a':b]", "[ 'a !11@4"}, {"['a': b]", "[ 'a !11@4"}, {"[[]: b]", "[ [ / !11@3"}, {"[a,b: c]", "[ :a :b !11@4"}, {"[&a x, *a b]", "[ &a:x *a !11@10"}, {"[&a x, *a : b]", "[ &a:x *a !11@10"},
		{"['a' # r\n'b']", "[ 'a !11@9"}, {"['a'\n\n'b']", "[ 'a !11@6"}, {"['a' ? b]", "[ 'a !11@5"}, {"['a' |]", "[ 'a !11@5"},
		// Nothing that is behind a node is read as a node.
		{"['a' &b c]", "[ 'a !11@5"}, {"['a' &]", "[ 'a !11@5"}, {"['a' !g!x]", "[ 'a !11@5"}, {"['a' *b]", "[ 'a !11@5"}, {"['a' *]", "[ 'a !11@5"}, {"['a' 'b]", "[ 'a !11@5"}, {`['a' "\q"]`, "[ 'a !11@5"},
	})
}

// P9: the end of a list with the sign of a map's, and the other way round.
func TestFlowWrongEnds(t *testing.T) {
	checkFlows(t, []flowCase{
		{"]", "!10@0"}, {"}", "!10@0"}, {",", "!10@0"}, {" ]", "!10@1"},
		{"[}", "[ !10@1"}, {"[ }", "[ !10@2"}, {"[a}", "[ :a !11@2"}, {"['a'}", "[ 'a !11@4"}, {"[a,}", "[ :a !10@3"}, {"[[}]", "[ [ !10@2"}, {"[[]}", "[ [ / !11@3"}, {"[{}}", "[ { / !11@3"}, {"[&a }", "[ &a: !11@4"}, {"[&a}", "[ &a: !11@3"},
		{"{]", "{ !10@1"}, {"{ ]", "{ !10@2"}, {"{a]", "{ :a : !11@2"}, {"{'a' ]", "{ 'a : !11@5"}, {"{a: b]", "{ :a :b !11@5"}, {"{a: ]", "{ :a !10@4"}, {"{a:]", "{ :a !10@3"}, {"{'a':]", "{ 'a !10@5"}, {"{a,]", "{ :a : !10@3"}, {"{a: b,]", "{ :a :b !10@6"}, {"{&a ]", "{ !10@4"}, {"{&a]", "{ !10@3"}, {"{a: &b ]", "{ :a &b: !11@7"}, {"{a: &b]", "{ :a &b: !11@6"}, {"{a: []]", "{ :a [ / !11@6"}, {"{a: {}]", "{ :a { / !11@6"}, {"{a: [}", "{ :a [ !10@5"}, {"[{]}", "[ { !10@2"}, {"[{a]}", "[ { :a : !11@3"}, {"{&a : ]", "{ &a: !10@6"},
	})
}

// P9: maps end with a comma or without; a key without a value has nothing as one, and that is told ahead of the fault behind it.
func TestFlowMaps(t *testing.T) {
	checkFlows(t, []flowCase{
		{"{ }", "{ / @3"}, {"{\n}", "{ / @3"}, {"{a,}", "{ :a : / @4"}, {"{a: b,}", "{ :a :b / @7"}, {"{a: b , }", "{ :a :b / @9"}, {"{a: [],}", "{ :a [ / / @8"}, {"{'a',}", "{ 'a : / @6"}, {"{a\n,\n}", "{ :a : / @6"},
		{"{,}", "{ !10@1"}, {"{ ,}", "{ !10@2"}, {"{,a}", "{ !10@1"}, {"{a,,}", "{ :a : !10@3"}, {"{a,,b}", "{ :a : !10@3"}, {"{a: b,,}", "{ :a :b !10@6"}, {"{a: ,,}", "{ :a : !10@5"}, {"{a: b,\n,}", "{ :a :b !10@7"},
		// A value that is nothing.
		{"{a:}", "{ :a : / @4"}, {"{a: }", "{ :a : / @5"}, {"{a : }", "{ :a : / @6"}, {"{a:,}", "{ :a : / @5"}, {"{a: ,}", "{ :a : / @6"}, {"{a: , b: }", "{ :a : :b : / @10"}, {"{'a':}", "{ 'a : / @6"}, {"{'a':,}", "{ 'a : / @7"}, {"{'a' : ,b}", "{ 'a : :b : / @10"}, {"{a:\n}", "{ :a : / @5"}, {"{a: # r\n,}", "{ :a : / @10"}, {"{a: &b ,}", "{ :a &b: / @9"}, {"{a: &b }", "{ :a &b: / @8"}, {"{a: !t &b,}", "{ :a &b<!t>: / @11"}, {"{&a : &b }", "{ &a: &b: / @10"},
		// Neither a comma nor the end behind a value.
		{"{a: b c: d}", "{ :a :b_c !11@7"}, {"{a: b: c}", "{ :a :b !11@5"}, {"{a: 'b' c}", "{ :a 'b !11@8"}, {"{a: 'b'c}", "{ :a 'b !11@7"}, {"{a: 'b': c}", "{ :a 'b !11@7"}, {"{a: 'b':c}", "{ :a 'b !11@7"}, {"{a: [] b}", "{ :a [ / !11@7"}, {"{a: [][]}", "{ :a [ / !11@6"}, {"{a: b[]}", "{ :a :b !11@5"}, {"{a: 'b' *c}", "{ :a 'b !11@8"}, {"{a: 'b'\n&}", "{ :a 'b !11@8"},
		// Neither a colon nor these behind a key.
		{"{'a' 'b'}", "{ 'a : !11@5"}, {"{'a' b}", "{ 'a : !11@5"}, {"{'a'b}", "{ 'a : !11@4"}, {"{a []}", "{ :a : !11@3"}, {"{a[]}", "{ :a : !11@2"}, {"{a{}}", "{ :a : !11@2"}, {"{'a' &b c}", "{ 'a : !11@5"}, {"{'a' *b}", "{ 'a : !11@5"}, {"{'a' *}", "{ 'a : !11@5"}, {"{'a' 'b}", "{ 'a : !11@5"}, {"{x: &a y, *a b}", "{ :x &a:y *a : !11@13"}, {"{&a x [}", "{ &a:x : !11@6"},
	})
}

// P9: what may be a key, and which colon may stand behind it.
func TestFlowKeys(t *testing.T) {
	checkFlows(t, []flowCase{
		// An alias: its name has all that is up to a gap or a flow sign.
		{"{x: &a y, *a}", "{ :x &a:y *a : / @13"}, {"{x: &a y, *a ,}", "{ :x &a:y *a : / @15"}, {"{x: &a y, *a :}", "{ :x &a:y *a : / @15"}, {"{x: &a y, *a :[]}", "{ :x &a:y *a [ / / @17"}, {"{x: &a y, *a :,}", "{ :x &a:y *a : / @16"}, {"{x: &a y, *a\n: z}", "{ :x &a:y *a :z / @17"}, {"{x: &a y, *a: z}", "{ :x &a:y !14@10"}, {"{x: &a y, *a:}", "{ :x &a:y !14@10"}, {"{x: &a y, *a :z}", "{ :x &a:y *a : !11@13"}, {"{x: &a: y, *a: : z}", "{ :x &a::y *a: :z / @19"}, {"{x: &a [], *a : z}", "{ :x &a[ / *a :z / @18"},
		{"{*a: x}", "{ !14@1"}, {"{*a : x}", "{ !14@1"}, {"{* : x}", "{ !7@1"}, {"{*}", "{ !7@1"}, {"{*: x}", "{ !14@1"}, {"{&a *b : x}", "{ !16@4"}, {"{!t *b}", "{ !16@4"}, {"{&a * : x}", "{ !7@4"},
		// In quotes: any colon will do.
		{"{'a':b}", "{ 'a :b / @7"}, {"{'a': b}", "{ 'a :b / @8"}, {"{'a' :b}", "{ 'a :b / @8"}, {"{'a'\n:b}", "{ 'a :b / @8"}, {"{'a':'b'}", "{ 'a 'b / @9"}, {`{"a":"b"}`, `{ "a "b / @9`}, {`{"a":b}`, `{ "a :b / @7`}, {"{'a':[]}", "{ 'a [ / / @8"}, {"{'a':{'b':c}}", "{ 'a { 'b :c / / @13"}, {"{'a'::b}", "{ 'a ::b / @8"}, {"{'a'::}", "{ 'a !10@5"}, {"{'a':-}", "{ 'a !10@5"}, {"{'a':&b c}", "{ 'a &b:c / @10"}, {"{'a':*b}", "{ 'a !14@5"}, {"{'':''}", "{ ' ' / @7"}, {"{'a'}", "{ 'a : / @5"}, {"{&a 'b':c}", "{ &a'b :c / @10"}, {"{!t \"b\":c}", "{ <!t>\"b :c / @10"}, {"{'a':b: c}", "{ 'a :b !11@6"}, {"{'a:b':c}", "{ 'a:b :c / @9"},
		// Plain: a gap or a flow sign must be behind the colon.
		{"{a:b}", "{ :a:b : / @5"}, {"{a :b}", "{ :a_:b : / @6"}, {"{a:b: c}", "{ :a:b :c / @8"}, {"{a:[]}", "{ :a [ / / @6"}, {"{a:{}}", "{ :a { / / @6"}, {"{a:,b}", "{ :a : :b : / @6"}, {"{a:]}", "{ :a !10@3"}, {"{a:'b'}", "{ :a:'b' : / @7"}, {"{:a: b}", "{ ::a :b / @7"}, {"{-a: b}", "{ :-a :b / @7"}, {"{?a: b}", "{ :?a :b / @7"}, {"{a\n: b}", "{ :a :b / @7"}, {"{a\n :b}", "{ :a_:b : / @7"}, {"{a::b}", "{ :a::b : / @6"}, {"{a:: b}", "{ :a: :b / @7"}, {"{a: :b}", "{ :a ::b / @7"}, {"{a: : b}", "{ :a !10@4"}, {"{a b c}", "{ :a_b_c : / @7"},
		// Nothing, with properties.
		{"{&a ,}", "{ &a: : / @6"}, {"{&a }", "{ &a: : / @5"}, {"{&a : b}", "{ &a: :b / @8"}, {"{&a :}", "{ &a: : / @6"}, {"{&a :,}", "{ &a: : / @7"}, {"{&a :[]}", "{ &a: [ / / @8"}, {"{&a :]}", "{ &a: !10@5"}, {"{!t : b}", "{ <!t>: :b / @8"}, {"{! : b}", "{ <!>: :b / @7"}, {"{!t &a : b, c}", "{ &a<!t>: :b :c : / @14"}, {"{&a\n,\n}", "{ &a: : / @7"}, {"{&a\n: b}", "{ &a: :b / @8"}, {"{&a\n}", "{ &a: : / @5"}, {"{x: y, &a , z}", "{ :x :y &a: : :z : / @14"},
		// A colon that doesn't stand alone begins a plain key.
		{"{&a :b}", "{ &a::b : / @7"}, {"{&a :b: c}", "{ &a::b :c / @10"}, {"{! ::}", "{ <!>:: : / @6"},
		// Nothing, with none.
		{"{: a}", "{ !10@1"}, {"{:}", "{ !10@1"}, {"{ : }", "{ !10@2"}, {"{:,}", "{ !10@1"}, {"{:[]}", "{ !10@1"}, {"{a: b, : c}", "{ :a :b !10@7"}, {"{a, : c}", "{ :a : !10@4"},
		// A collection.
		{"{[]: a}", "{ !10@1"}, {"{{}: a}", "{ !10@1"}, {"{[a]}", "{ !10@1"}, {"{[", "{ !10@1"}, {"{&a []: b}", "{ !10@4"}, {"{&a {}}", "{ !10@4"}, {"{&a[]}", "{ !10@3"}, {"{!t [}", "{ !10@4"}, {"{a: b, [c]: d}", "{ :a :b !10@7"}, {"{a: b, {}}", "{ :a :b !10@7"}, {"{a, [*x]}", "{ :a : !10@4"},
		// What begins no scalar.
		{"{? a: b}", "{ !10@1"}, {"{?}", "{ !10@1"}, {"{- a}", "{ !10@1"}, {"{-}", "{ !10@1"}, {"{|}", "{ !10@1"}, {"{>}", "{ !10@1"}, {"{%a}", "{ !10@1"}, {"{@a}", "{ !10@1"}, {"{`a}", "{ !10@1"}, {"{#}", "{ !10@1"}, {"{&a ? b}", "{ !10@4"}, {"{&a | b}", "{ !10@4"},
	})
}

// P9: nothing is a node where there are properties and a sign follows; else what begins no node is a fault.
func TestFlowNothing(t *testing.T) {
	checkFlows(t, []flowCase{
		{"&a ,", "&a: @3"}, {"&a ]", "&a: @3"}, {"&a }", "&a: @3"}, {"!t ,", "<!t>: @3"}, {"!t ]", "<!t>: @3"}, {"!t }", "<!t>: @3"}, {"! ]", "<!>: @2"}, {"&a !t   }", "&a<!t>: @8"}, {"!t &a\t, x", "&a<!t>: @6"},
		{"[&a ,]", "[ &a: / @6"}, {"[&a ]", "[ &a: / @5"}, {"[&a\n,]", "[ &a: / @6"}, {"[&a # r\n]", "[ &a: / @9"}, {"[&a, !t, &b !u]", "[ &a: <!t>: &b<!u>: / @15"}, {"[&a }]", "[ &a: !11@4"},
		{"&a :", "!10@3"}, {"&a : x", "!10@3"}, {"&a :,", "!10@3"}, {"&a -", "!10@3"}, {"&a - x", "!10@3"}, {"&a ?", "!10@3"}, {"&a |", "!10@3"}, {"&a >", "!10@3"}, {"&a %", "!10@3"}, {"&a @", "!10@3"}, {"&a `", "!10@3"}, {"&a #", "!10@3"}, {"&a \n", "!10@3"},
		{"[&a :]", "[ !10@4"}, {"[&a : b]", "[ !10@4"}, {"[&a - b]", "[ !10@4"}, {"[&a ?]", "[ !10@4"}, {"{a: &b : c}", "{ :a !10@7"}, {"{a: &b - c}", "{ :a !10@7"},
		{":", "!10@0"}, {": a", "!10@0"}, {"-", "!10@0"}, {"- a", "!10@0"}, {"?", "!10@0"}, {"? a", "!10@0"}, {"-]", "!10@0"}, {"|", "!10@0"}, {"| a", "!10@0"}, {">", "!10@0"}, {"%a", "!10@0"}, {"@a", "!10@0"}, {"`a", "!10@0"}, {"\n -\n", "!10@2"},
		{"[-]", "[ !10@1"}, {"[- a]", "[ !10@1"}, {"[?]", "[ !10@1"}, {"[:]", "[ !10@1"}, {"[: a]", "[ !10@1"}, {"[|]", "[ !10@1"}, {"[> a]", "[ !10@1"}, {"[%]", "[ !10@1"}, {"[@]", "[ !10@1"}, {"[`]", "[ !10@1"}, {"[#]", "[ !10@1"}, {"[a, -]", "[ :a !10@4"}, {"{a: -}", "{ :a !10@4"}, {"{a: |}", "{ :a !10@4"}, {"{a: %}", "{ :a !10@4"},
	})
}

// P2, P9: an alias needs a node of its name that is told and ended, the last one with that name.
func TestFlowAliases(t *testing.T) {
	name := strings.Repeat("x", 60)
	checkFlows(t, []flowCase{
		{"*a", "!14@0"}, {"*a x", "!14@0"}, {" *a", "!14@1"}, {"[*a]", "[ !14@1"}, {"[*a, &a x]", "[ !14@1"}, {"[&a x, *b]", "[ &a:x !14@7"}, {"[&a x, *A]", "[ &a:x !14@7"}, {"[&ab x, *a]", "[ &ab:x !14@8"}, {"[&a x, *ab]", "[ &a:x !14@7"}, {"{a: *a}", "{ :a !14@4"}, {"['a', *a]", "[ 'a !14@6"}, {"[!a x, *a]", "[ <!a>:x !14@7"},
		// A name that isn't right.
		{"*", "!7@0"}, {"* a", "!7@0"}, {"*,", "!7@0"}, {"*[]", "!7@0"}, {"*\n", "!7@0"}, {"[*]", "[ !7@1"}, {"[* a]", "[ !7@1"}, {"[*,]", "[ !7@1"}, {"{a: *}", "{ :a !7@4"}, {"*" + name, "!14@0"}, {"*" + name + "x", "!7@0"}, {"[&" + name + " a, *" + name + "]", "[ &" + name + ":a *" + name + " / @128"}, {"[&" + name + " a, *" + name + "x]", "[ &" + name + ":a !7@66"},
		// Properties; a name that isn't right comes ahead of these, and these ahead of a node that isn't there.
		{"&a *a", "!16@3"}, {"&a *b", "!16@3"}, {"!t *a", "!16@3"}, {"! *a", "!16@2"}, {"&a !t *a", "!16@6"}, {"[&a x, &b *a]", "[ &a:x !16@10"}, {"[&a x, !t *a]", "[ &a:x !16@10"}, {"[&a\n*a]", "[ !16@4"}, {"{&a x: &b *a}", "{ &a:x !16@10"}, {"&a *", "!7@3"}, {"!t *", "!7@3"}, {"[&a *]", "[ !7@4"}, {"&a *" + name + "x", "!7@3"}, {"&a & *b", "!7@3"},
		// Within its own node.
		{"&a [*a]", "&a[ !14@4"}, {"&a {*a : b}", "&a{ !14@4"}, {"&a {b: *a}", "&a{ :b !14@7"}, {"[&a [*a]]", "[ &a[ !14@5"}, {"&a [&b [*a]]", "&a[ &b[ !14@8"}, {"&a [&b [], *b, *a]", "&a[ &b[ / *b !14@15"}, {"&a [x, [y, {z: *a}]]", "&a[ :x [ :y { :z !14@15"}, {"[&a [b], *a]", "[ &a[ :b / *a / @12"}, {"[&a {b: c}, [*a]]", "[ &a{ :b :c / [ *a / / @17"},
		// A name that was given twice.
		{"[&a x, &a y, *a]", "[ &a:x &a:y *a / @16"}, {"[&a x, &a [*a]]", "[ &a:x &a[ !14@11"}, {"[&a [], &a [*a]]", "[ &a[ / &a[ !14@12"}, {"[&a [&a x, *a]]", "[ &a[ &a:x *a / / @15"}, {"[&a [&a x], *a]", "[ &a[ &a:x / *a / @15"}, {"[&a [&a [*a]]]", "[ &a[ &a[ !14@9"}, {"[&a [&a [], *a]]", "[ &a[ &a[ / *a / / @16"}, {"[&a x, &a [], *a]", "[ &a:x &a[ / *a / @17"}, {"&a [&b x, &a y, *a, *b]", "&a[ &b:x &a:y *a *b / @23"},
		// Each kind of node may have the name.
		{"[&a 'x', *a]", "[ &a'x *a / @12"}, {"[&a \"x\", *a]", "[ &a\"x *a / @12"}, {"[&a , *a]", "[ &a: *a / @9"}, {"[&a [], *a]", "[ &a[ / *a / @11"}, {"[&a {}, *a]", "[ &a{ / *a / @11"}, {"{&a : *a}", "{ &a: *a / @9"}, {"{&a , *a : b}", "{ &a: : *a :b / @13"}, {"{a: &b , *b : c}", "{ :a &b: *b :c / @16"}, {"{a: &b }", "{ :a &b: / @8"}, {"{&a b: c, d: *a}", "{ &a:b :c :d *a / @16"}, {"{k: &a {x: y}, *a : z}", "{ :k &a{ :x :y / *a :z / @22"}, {"[!t &a x, *a]", "[ &a<!t>:x *a / @13"}, {"[{&a b}, *a]", "[ { &a:b : / *a / @12"},
	})
}

// P9: the faults of the scalars in quotes are told as they are.
func TestFlowQuotes(t *testing.T) {
	checkFlows(t, []flowCase{
		{"'a", "!3@2"}, {`"a`, "!3@2"}, {"'", "!3@1"}, {"'a\n---", "!4@3"}, {"\"a\n...\n\"", "!4@3"}, {`"\q"`, "!5@1"}, {`"a\`, "!5@2"}, {"'a''", "!3@4"}, {"&a 'x", "!3@5"}, {"!t \"\\q", "!5@4"},
		{"['a]", "[ !3@4"}, {`["a\q"]`, "[ !5@3"}, {"[a, 'b\n--- c']", "[ :a !4@7"}, {`[&a "\q]`, "[ !5@5"}, {"['a', \"b\n...\"]", "[ 'a \"b_... / @14"}, {"['a', \"b\n... \"]", "[ 'a !4@9"},
		{"{'a: b}", "{ !3@7"}, {"{a: 'b}", "{ :a !3@7"}, {`{a: "\x4"}`, "{ :a !5@5"}, {"{\"a\n---\n\": b}", "{ !4@4"}, {`{"\z": b}`, "{ !5@2"},
		{"['a,b]', c]", "[ 'a,b] :c / @11"}, {"{'a: b}': c}", "{ 'a:_b} :c / @12"}, {`["\"]", a]`, "[ \"\"] :a / @10"}, {"['it''s']", "[ 'it's / @9"}, {"['# a']", "[ '#_a / @7"},
	})
}

// deepFlow opens so many collections, of the kinds that the letters tell in turn, and tells what is told of them.
func deepFlow(n int, letters string, own string) (text, told string) {
	for i := range n {
		switch letters[i%len(letters)] {
		case 'q':
			text, told = text+own+"[", told+own+"[ "
		case 'm':
			text, told = text+own+"{k: ", told+own+"{ :k "
		}
	}
	return text, strings.ReplaceAll(told, "&a [", "&a[")
}

// closedFlow closes them.
func closedFlow(n int, letters string) (text, told string) {
	for i := n - 1; i >= 0; i-- {
		text += map[byte]string{'q': "]", 'm': "}"}[letters[i%len(letters)]]
		told += "/ "
	}
	return text, told
}

// P2, P9: MaxDepth collections may be open, and one more is a fault at its sign, with and without properties.
func TestFlowDepth(t *testing.T) {
	for _, letters := range []string{"q", "m", "qm", "mq", "mmq"} {
		for _, n := range []int{1, 2, 39, 40} {
			text, told := deepFlow(n, letters, "")
			behind, ends := closedFlow(n, letters)
			checkFlows(t, []flowCase{{text + "x" + behind, fmt.Sprintf("%s:x %s@%d", told, ends, len(text+behind)+1)}})
		}
		text, told := deepFlow(40, letters, "")
		fault := func(more string, code, at int) {
			t.Helper()
			checkFlows(t, []flowCase{{text + more, fmt.Sprintf("%s!%d@%d", told, code, len(text)+at)}})
		}
		for _, sign := range []string{"[", "{", "[]", "{}", "[x]", "{x: y}", "[*", "{&", "[\n---", "[[", "{{"} {
			fault(sign, 12, 0)
			fault(" "+sign, 12, 1)
			fault("&a "+sign, 12, 3)
			fault("!t "+sign, 12, 3)
			fault("&a !t\n"+sign, 12, 6)
			fault("&a"+sign, 12, 2)
		}
		// What comes ahead of the sign is met first.
		fault("&a &b [", 7, 3)
		fault("!! [", 15, 0)
		fault("*x", 14, 0)
		fault("", 3, 0)
		fault("&a", 3, 2)
	}
	// A key that is a collection isn't opened.
	text, told := deepFlow(39, "q", "")
	checkFlows(t, []flowCase{{text + "{[", told + "{ !10@40"}, {text + "[[", told + "[ !12@40"}, {text + "{a: {", told + "{ :a !12@43"}})
	text, told = deepFlow(40, "q", "&a ")
	checkFlows(t, []flowCase{{text, fmt.Sprintf("%s!3@%d", told, len(text))}, {text + "&b []", fmt.Sprintf("%s!12@%d", told, len(text)+3)}})
	// What is ended isn't open.
	many := strings.Repeat("[], ", 100)
	checkFlows(t, []flowCase{
		{"[" + many + "]", "[ " + strings.Repeat("[ / ", 100) + "/ @402"},
		{"{" + strings.Repeat("a: {}, ", 50) + "}", "{ " + strings.Repeat(":a { / ", 50) + "/ @352"},
	})
	text, told = deepFlow(39, "q", "")
	behind, ends := closedFlow(39, "q")
	checkFlows(t, []flowCase{{text + "[], {}, []" + behind, told + "[ / { / [ / " + ends + "@88"}, {text + "[], {}, [[" + behind, told + "[ / { / [ !12@48"}})
}

// P9: the place is brought into the text, and then goes over a gap; what is ahead of it doesn't count.
func TestFlowPlaces(t *testing.T) {
	for _, c := range []struct {
		s    string
		p    int
		want string
	}{
		{"[a]", -1, "[ :a / @3"}, {"[a]", -100, "[ :a / @3"}, {"[a]", lowest, "[ :a / @3"}, {" \n [a]", lowest, "[ :a / @6"}, {"---", lowest, "!4@0"},
		{" \n [a]", 0, "[ :a / @6"}, {" \n [a]", 1, "[ :a / @6"}, {" \n [a]", 2, "[ :a / @6"}, {" \n [a]", 3, "[ :a / @6"}, {" \n [a]", 4, ":a @5"}, {" \n [a]", 5, "!10@5"}, {" \n [a]", 6, "!3@6"},
		{"[a, b]", 1, ":a @2"}, {"[a, b]", 2, "!10@2"}, {"[a, b]", 3, ":b @5"}, {"[a, b]", 4, ":b @5"}, {"[a, b]", 5, "!10@5"}, {"[a, b]", 6, "!3@6"}, {"[a, b]", 7, "!3@6"}, {"[a, b]", highest, "!3@6"}, {"[a, b]", highest - 1, "!3@6"}, {"a ", highest, "!3@2"},
		// A gap has remarks in it; a place within one is a place like any other.
		{"a # [b]", 1, "!3@7"}, {"a # [b]", 2, "!3@7"}, {"a # [b]", 3, "[ :b / @7"}, {"a #[b]", 3, "[ :b / @6"}, {"a # r\n[b]", 1, "[ :b / @9"}, {"a#b", 1, "!10@1"},
		// A mark counts at the beginning of its line alone.
		{"a\n---\nb", 1, "!4@2"}, {"a\n---\nb", 2, "!4@2"}, {"a\n---\nb", 3, ":--_b @7"}, {"a\n---\nb", 5, ":b @7"}, {"--- a", 3, ":a @5"}, {"--- a", 4, ":a @5"}, {"---", 3, "!3@3"}, {"... []", 1, ":.. @3"},
		// The document begins at the place: no collection is open there, and no name was given.
		{"[&a x, *a]", 1, "&a:x @5"}, {"[&a x, *a]", 6, "!14@7"}, {"[&a x, *a]", 7, "!14@7"}, {"[&a]", 1, "!7@1"}, {"[!t,a]", 1, "!7@1"}, {"[&a\nx]", 1, "!10@3"}, {"[&a ]", 1, "&a: @4"}, {"{a: b}", 1, ":a @2"}, {"{'a':b}", 1, "'a @4"}, {"{a: {b: c}}", 4, "{ :b :c / @10"}, {"[[[a]]]", 2, "[ :a / @5"},
		{strings.Repeat("[", 60) + "a" + strings.Repeat("]", 60), 20, strings.Repeat("[ ", 40) + ":a " + strings.Repeat("/ ", 40) + "@101"}, {strings.Repeat("[", 60), 19, strings.Repeat("[ ", 40) + "!12@59"},
		{"%TAG !g! p:\n--- !g!x y", 16, "!15@16"},
	} {
		if got := flowAt(c.s, c.p).brief(); got != c.want {
			t.Errorf("FlowAt(%q, %d) is\n\t%s, not\n\t%s", c.s, c.p, got, c.want)
		}
	}
}

// P9: the empty text, gaps alone, and texts that aren't clean.
func TestFlowWrongInputs(t *testing.T) {
	for _, p := range []int{lowest, lowest + 1, -1, 0, 1, 2, highest - 1, highest} {
		if got := flowAt("", p).brief(); got != "!3@0" {
			t.Errorf("FlowAt of nothing at %d is %s", p, got)
		}
		if got := flowAt(" \t\n # r\n#\n", p).brief(); got != "!3@10" {
			t.Errorf("FlowAt of a gap at %d is %s", p, got)
		}
	}
	checkFlows(t, []flowCase{
		{" ", "!3@1"}, {"\t", "!3@1"}, {"\n", "!3@1"}, {"#", "!3@1"}, {"# r", "!3@3"}, {" # r", "!3@4"}, {"# r\n# q\n\n", "!3@9"},
		{"\x00", ":\x00 @1"}, {"\xff", ":\xff @1"}, {"\xc3", ":\xc3 @1"}, {"\r", ":\r @1"}, {"a\r\nb", ":a\r_b @4"}, {"\x00 \x00", ":\x00_\x00 @3"}, {"\u00a0", ":\u00a0 @2"}, {"\ufeffa", ":\ufeffa @4"}, {"\u0085", ":\u0085 @2"},
		{"[\x00]", "[ :\x00 / @3"}, {"[\xff, \xc3]", "[ :\xff :\xc3 / @6"}, {"['\xff\x00']", "[ '\xff\x00 / @6"}, {"[\"\xe2\x80\"]", "[ \"\xe2\x80 / @6"}, {"{\x00: \xff}", "{ :\x00 :\xff / @6"}, {"{\x00\xff}", "{ :\x00\xff : / @4"}, {"['a'\x00]", "[ 'a !11@4"}, {"['a'\xff]", "[ 'a !11@4"}, {"{'a'\r: b}", "{ 'a : !11@4"}, {"[\x00", "[ :\x00 !3@2"}, {"[\xff\n---", "[ :\xff !4@3"},
		{"&\x00 \xff", "&\x00:\xff @4"}, {"&\xff\x00 a", "&\xff\x00:a @5"}, {"!\xff a", "<!\xff>:a @4"}, {"!<\x00> a", "<\x00>:a @6"}, {"*\xff", "!14@0"}, {"[&\xff a, *\xff]", "[ &\xff:a *\xff / @10"}, {"[&\xff a, *\xfe]", "[ &\xff:a !14@7"}, {"!\x00!x a", "!15@0"}, {"!<u>\x00", "!7@0"},
	})
}

var flowPropRule = regexp.MustCompile(`^[&!]`)

// flowRule reads a flow node by a text of the signs that are open and a word for what is next; it never calls itself.
type flowRule struct {
	s      string
	at     int
	open   string
	around int // how many block collections are open
	behind int // the place directly behind the last property
	known  []impl.Handle
	out    nodeTold
}

const flowOver = ""

func nodeByRule(s string, p int) nodeTold {
	r := &flowRule{s: s, at: gapByRule(s, placeByRule(s, p))}
	r.run("node")
	if r.out.code == 0 {
		r.out.place = r.at
	}
	return r.out
}

func (r *flowRule) run(next string) {
	for next != flowOver {
		if r.open != "" {
			r.at = gapByRule(r.s, r.at)
		}
		if code := r.stop(); code != 0 {
			next = r.fault(code, r.at)
		} else {
			next = r.step(next)
		}
	}
}

func (r *flowRule) stop() int {
	if r.at >= len(r.s) {
		return 3
	}
	if markByRule(r.s, r.at) > 0 {
		return 4
	}
	return 0
}

func (r *flowRule) fault(code, at int) string {
	r.out.code, r.out.place = code, at
	return flowOver
}

// sees tells whether the pattern is that of what is here.
func (r *flowRule) sees(pattern string) bool {
	return regexpOf(pattern).MatchString(r.s[r.at:])
}

var flowPatterns = map[string]*regexp.Regexp{}

func regexpOf(pattern string) *regexp.Regexp {
	if flowPatterns[pattern] == nil {
		flowPatterns[pattern] = regexp.MustCompile(`^(?:` + pattern + `)`)
	}
	return flowPatterns[pattern]
}

func (r *flowRule) step(next string) string {
	list := strings.HasSuffix(r.open, "[")
	last := impl.Event{}
	if n := len(r.out.events); n > 0 {
		last = r.out.events[n-1]
	}
	switch {
	case next == "node":
		return r.node(false)
	case next == "item" && (list && r.sees(`\]`) || !list && r.sees(`\}`)):
		r.at++
		r.open = r.open[:len(r.open)-1]
		r.out.events = append(r.out.events, impl.Event{Kind: 7})
		return r.behindNode()
	case next == "item" && list:
		return r.node(false)
	case next == "item":
		return r.node(true)
	case next == "colon" && (r.sees(`:[ \t\n,\[\]{}]|:\z`) || r.sees(`:`) && last.Style > 1):
		r.at++
		return "value"
	case next == "colon", next == "value" && r.sees(`[,}]`):
		r.out.events = append(r.out.events, impl.Event{Kind: 5, Style: 1})
		return "behind"
	case next == "value":
		return r.node(false)
	}
	switch {
	case r.sees(`,`):
		r.at++
		return "item"
	case list && r.sees(`\]`), !list && r.sees(`\}`):
		return "item"
	}
	return r.fault(11, r.at)
}

func (r *flowRule) behindNode() string {
	if r.open == "" {
		return flowOver
	}
	return "behind"
}

// own reads the properties; a stop behind them is a fault.
func (r *flowRule) own() (impl.Event, bool) {
	e, ok := r.words()
	if code := r.stop(); ok && code != 0 {
		r.fault(code, r.at)
		return e, false
	}
	return e, ok
}

// words reads the properties into an event without a kind.
func (r *flowRule) words() (impl.Event, bool) {
	e := impl.Event{}
	for flowPropRule.MatchString(r.s[r.at:]) {
		word, again := nameByPattern(r.s, r.at), e.Anchor != ""
		tag := r.s[r.at] == '!'
		if tag {
			word, again = tagByPattern(r.s, r.at), e.Tag != ""
		}
		if again || !word.ok || !regexpOf(`[ \t\n]|\z`).MatchString(r.s[word.end:]) && (r.open == "" || !regexpOf(`[,\[\]{}]`).MatchString(r.s[word.end:])) {
			r.fault(7, r.at)
			return e, false
		}
		if !tag {
			e.Anchor = word.text
		} else if e.Tag, again = readByPattern(word.text, r.known); !again {
			r.fault(15, r.at)
			return e, false
		}
		r.behind = word.end
		r.at = whiteByRule(r.s, word.end)
		if r.open != "" {
			r.at = gapByRule(r.s, word.end)
		}
	}
	return e, true
}

func (r *flowRule) node(key bool) string {
	e, ok := r.own()
	if !ok {
		return flowOver
	}
	owned := e != impl.Event{}
	e.Kind = 5
	switch {
	case !key && r.sees(`[\[{]`):
		return r.collection(e)
	case r.sees(`\*`):
		return r.alias(owned, key)
	case r.sees(`['"]`):
		style, x := 2, singleByRule(r.s, r.at)
		if r.sees(`"`) {
			style, x = 3, doubleByRule(r.s, r.at)
		}
		if x.code != 0 {
			return r.fault(x.code, x.place)
		}
		e.Style, e.Text, r.at = style, x.text, x.place
	case plainFirstByRule(r.s, r.at, true):
		x := plainByRule(r.s, r.at, -1, true)
		e.Style, e.Text, r.at = 1, x.text, x.end
	case owned && (r.sees(`[,}]`) || key && r.sees(`:`) || !key && r.sees(`\]`)):
		e.Style = 1
	default:
		return r.fault(10, r.at)
	}
	r.out.events = append(r.out.events, e)
	return r.behindScalar(key)
}

func (r *flowRule) behindScalar(key bool) string {
	if key {
		return "colon"
	}
	return r.behindNode()
}

func (r *flowRule) collection(e impl.Event) string {
	if r.around+len(r.open) >= 40 {
		return r.fault(12, r.at)
	}
	sign := r.s[r.at : r.at+1]
	e.Kind, e.Style = map[string]int{"[": 3, "{": 4}[sign], 6
	r.out.events = append(r.out.events, e)
	r.open += sign
	r.at++
	return "item"
}

func (r *flowRule) alias(owned, key bool) string {
	x := nameByPattern(r.s, r.at)
	switch {
	case !x.ok:
		return r.fault(7, r.at)
	case owned:
		return r.fault(16, r.at)
	case !endedByRule(r.out.events, x.text):
		return r.fault(14, r.at)
	}
	r.out.events = append(r.out.events, impl.Event{Kind: 6, Text: x.text})
	r.at = x.end
	return r.behindScalar(key)
}

// endedByRule looks from the back for a node with that anchor, and goes on from it to its end.
func endedByRule(l []impl.Event, name string) bool {
	from := len(l) - 1
	for from >= 0 && l[from].Anchor != name {
		from--
	}
	if from < 0 {
		return false
	}
	depth := 0
	for _, e := range l[from:] {
		switch e.Kind {
		case 3, 4:
			depth++
		case 7:
			depth--
		}
		if depth == 0 {
			return true
		}
	}
	return false
}

// streamOf puts what was told into a stream; a fault is its last event.
func streamOf(a nodeTold) []impl.Event {
	l := append([]impl.Event{{Kind: impl.EvStream}, {Kind: impl.EvDoc}}, a.events...)
	if a.code != 0 {
		return append(l, impl.Event{Kind: impl.EvFault, Code: a.code, At: a.place})
	}
	return append(l, impl.Event{Kind: impl.EvDocEnd}, impl.Event{Kind: impl.EvStreamEnd})
}

// nestFault tells what keeps an answer from being a node, or the beginning of one, as P2 has it.
func nestFault(s string, a nodeTold) string {
	if !impl.Nested(streamOf(a)) {
		return "it isn't nested"
	}
	depth := 0
	for i, e := range a.events {
		switch e.Kind {
		case impl.EvSeq, impl.EvMap:
			depth++
		case impl.EvEnd:
			depth--
		case impl.EvAlias:
			if !endedByRule(a.events[:i], e.Text) {
				return "an alias isn't behind the end of its node"
			}
		case impl.EvFault:
			return "a fault is told as an event"
		}
		if depth > impl.MaxDepth {
			return "it is too deep"
		}
	}
	switch {
	case a.place < 0 || a.place > len(s):
		return "its place isn't one of the text"
	case a.code == 3 && a.place != len(s):
		return "3 is told where the text doesn't end"
	case a.code != 0 && (a.code == 4) != (markByRule(s, a.place) > 0):
		return "a mark is where 4 is told, and nothing else"
	}
	return ""
}

// streamFault tells what keeps an answer from being one of FlowAt.
func streamFault(s string, a nodeTold) string {
	switch wrong := nestFault(s, a); {
	case wrong != "":
		return wrong
	case !slices.Contains([]int{0, 3, 4, 5, 7, 10, 11, 12, 14, 15, 16}, a.code):
		return "no such code is known"
	case a.code != 0 && (a.code == 3) != (a.place == len(s)):
		return "the text ends where 3 is told, and nothing else"
	}
	return ""
}

// checkNode holds FlowAt against the second telling and against P2, and counts the codes that it tells.
func checkNode(t *testing.T, s string, p int, codes map[int]int) {
	t.Helper()
	got := flowAt(s, p)
	if want := nodeByRule(s, p); !got.same(want) {
		t.Fatalf("FlowAt(%q, %d) is\n\t%s, not\n\t%s", s, p, got.brief(), want.brief())
	}
	if wrong := streamFault(s, got); wrong != "" {
		t.Fatalf("FlowAt(%q, %d) is\n\t%s: %s", s, p, got.brief(), wrong)
	}
	codes[got.code]++
}

// P2, P9: FlowAt answers by its rule, and what it tells is a node or the beginning of one, for many texts.
func TestFlowOfManyTexts(t *testing.T) {
	codes := map[int]int{}
	check := func(s string) { checkNode(t, s, 0, codes) }
	eachText([]string{"[", "]", "{", "}", ",", ":", "a", " "}, 6, check)
	eachText([]string{"[", "{", "]", "}", ",", ": ", "&a ", "*a", "!t ", "'q'", "\n---\n"}, 4, check)
	within := func(s string) {
		for _, ahead := range []string{"[", "{", "{k: ", "&a [x, "} {
			check(ahead + s)
		}
	}
	eachText([]string{"[", "]", "{", "}", ",", ":", "a", " ", "'q'"}, 4, within)
	eachText([]string{"&a", "&a ", "!", "!!", "!<u>", "!g!x ", "*a", "*", "]", "}", ",", " ", "x", ":"}, 3, within)
	eachText([]string{"\n", " ", " #r\n", "#", "\t", "a", ",", "]", "}", ": ", "\n---", "\n... "}, 3, within)
	eachText([]string{"'", `"`, `\`, "a", "\n", ":", "]", "}", "\n--- "}, 4, within)
	eachText([]string{"&a ", "&b ", "*a ", "*b ", "[", "]", ",", "{", "}"}, 4, within)
	for _, code := range []int{0, 3, 4, 5, 7, 10, 11, 14, 15, 16} {
		if codes[code] < 100 {
			t.Errorf("code %d was met %d times", code, codes[code])
		}
	}
}

// P2, P9: the same at every place of many texts and outside of them.
func TestFlowAtManyPlaces(t *testing.T) {
	codes := map[int]int{}
	check := func(s string) {
		for p := -1; p <= len(s)+1; p++ {
			checkNode(t, s, p, codes)
		}
	}
	eachText([]string{"[a", "]", "{", "}", ",", ": ", "&a ", "*a", "\n", " #r\n", "\n---"}, 3, check)
	eachText([]string{"[", "&a\n", "!t ", "!!", "'q'", "x", ":", "}", "\x00", "\xff"}, 3, check)
	check("[&a x, {b: *a, 'c':[!t d, \"e\\n\"]} # r\n, *a]\n---\n{f: , !!str : g}")
}

// chance is a source of choices that are the same in every run.
func chance(seed uint64) *rand.Rand {
	return rand.New(rand.NewPCG(seed, 10))
}

// P2, P9: the same of long texts, which go as deep as they may and deeper.
func TestFlowOfLongTexts(t *testing.T) {
	codes := map[int]int{}
	r := chance(1)
	inner := []string{"[", "[", "[", "{", "{k: ", "{'k':", "]", "}", ", ", ",", "a", "'b'", "&a ", "&b ", "!t ", "*a", "*b", ": ", "\n", " # r\n"}
	for range 30000 {
		s := ""
		for range r.IntN(12) {
			s += inner[r.IntN(len(inner))]
		}
		checkNode(t, s, 0, codes)
		deep, _ := deepFlow(35+r.IntN(6), []string{"q", "m", "qm"}[r.IntN(3)], "")
		checkNode(t, deep+s, 0, codes)
	}
	for _, code := range []int{3, 7, 10, 11, 12, 14, 16} {
		if codes[code] < 100 {
			t.Errorf("code %d was met %d times", code, codes[code])
		}
	}
}

// flowScribe writes a node of which the letters of nodesOf tell, and what is to be told of it.
type flowScribe struct {
	r       *rand.Rand
	gaps    []string
	letters string
	text    string
	events  []impl.Event
	ended   []string // the anchors of nodes that are ended
	names   int
	code    int
}

func (w *flowScribe) gap() {
	w.text += w.gaps[w.r.IntN(len(w.gaps))]
}

// own writes properties, or none, and a gap that keeps them apart from what follows.
func (w *flowScribe) own() impl.Event {
	e := impl.Event{}
	var parts []string
	if w.r.IntN(3) == 0 {
		e.Anchor = fmt.Sprintf("n%d", w.names)
		w.names++
		parts = append(parts, "&"+e.Anchor)
	}
	if w.r.IntN(3) == 0 {
		tags := [][2]string{{"!t", "!t"}, {"!!str", "tag:yaml.org,2002:str"}, {"!<u:v>", "u:v"}, {"!", "!"}}
		tag := tags[w.r.IntN(len(tags))]
		e.Tag = tag[1]
		parts = append(parts, tag[0])
	}
	if w.r.IntN(2) == 0 {
		slices.Reverse(parts)
	}
	for _, part := range parts {
		w.text += part + " "
		// Outside of a collection what is owned must be on the same line.
		if w.inner() {
			w.gap()
		}
	}
	return e
}

func (w *flowScribe) inner() bool {
	return len(w.events) > 0
}

func (w *flowScribe) node(key bool) {
	e := w.own()
	letter := w.letters[0]
	w.letters = w.letters[1:]
	if letter == 'v' {
		w.scalar(e)
		return
	}
	if key {
		w.code = 10
		return
	}
	e.Kind, e.Style = map[byte]int{'q': impl.EvSeq, 'm': impl.EvMap}[letter], impl.StFlow
	w.events = append(w.events, e)
	w.text += map[byte]string{'q': "[", 'm': "{"}[letter]
	w.items(letter == 'm')
	if w.code != 0 {
		return
	}
	w.letters = w.letters[1:]
	w.text += map[byte]string{'q': "]", 'm': "}"}[letter]
	w.events = append(w.events, impl.Event{Kind: impl.EvEnd})
	w.end(e)
}

func (w *flowScribe) end(e impl.Event) {
	if e.Anchor != "" {
		w.ended = append(w.ended, e.Anchor)
	}
}

func (w *flowScribe) items(pairs bool) {
	w.gap()
	for w.letters[0] != 'e' {
		w.node(pairs)
		if w.code != 0 {
			return
		}
		w.gap()
		if pairs {
			w.value()
		}
		if w.code != 0 {
			return
		}
		w.gap()
		if w.letters[0] != 'e' || w.r.IntN(3) == 0 {
			w.text += ","
			w.gap()
		}
	}
}

// value writes what is behind a key; a value that is nothing may be left out with its colon, or without it.
func (w *flowScribe) value() {
	nothing := impl.Event{Kind: impl.EvText, Style: impl.StPlain}
	if w.letters[0] == 'v' && w.r.IntN(3) == 0 {
		w.letters = w.letters[1:]
		w.events = append(w.events, nothing)
		if w.r.IntN(2) == 0 {
			w.text += " : "
		}
		return
	}
	quoted := w.events[len(w.events)-1].Style > impl.StPlain
	w.text += map[bool]string{false: " : ", true: ":"}[quoted]
	w.gap()
	w.node(false)
}

func (w *flowScribe) scalar(e impl.Event) {
	owned := e.Anchor != "" || e.Tag != ""
	e.Kind = impl.EvText
	choice := w.r.IntN(5)
	switch {
	case choice == 0 && !owned && len(w.ended) > 0:
		name := w.ended[w.r.IntN(len(w.ended))]
		w.text += "*" + name
		w.events = append(w.events, impl.Event{Kind: impl.EvAlias, Text: name})
		if w.r.IntN(2) == 0 {
			w.text += " "
		}
		return
	case choice == 1 && owned && w.inner():
		e.Style = impl.StPlain
	case choice == 2:
		e.Style, e.Text = impl.StSingle, "it's, [a]: {b} # c"
		w.text += "'" + singleBody(e.Text) + "'"
	case choice == 3:
		e.Style, e.Text = impl.StDouble, "a\n\"b\", ]}"
		w.text += `"` + doubleBody(e.Text) + `"`
	default:
		e.Style, e.Text = impl.StPlain, "p:q#r -s"
		w.text += e.Text
	}
	w.events = append(w.events, e)
	w.end(e)
}

// P9: nodes are read as they were written, with any gaps within; a key that is a collection is a fault at its sign.
func TestFlowNodesAreReadAsWritten(t *testing.T) {
	seen := map[int]int{}
	for i, letters := range nodesOf(9) {
		for form, gaps := range [][]string{{""}, {" "}, {"\n", ""}, {" # ]}\n", "", "\t"}, {"", " ", "\n", "\n\n \t", " #\n# , :\n"}} {
			w := &flowScribe{r: chance(uint64(5*i + form)), gaps: gaps, letters: letters}
			w.node(false)
			seen[w.code]++
			want := nodeTold{w.events, len(w.text), w.code}
			behind := " ,"
			if w.code != 0 {
				behind = "["
			}
			for _, ahead := range []string{"", " \n# r\n", "--- "} {
				want.place = len(ahead + w.text)
				p := strings.LastIndex(ahead, "- ") + 1
				if got := flowAt(ahead+w.text+behind, p); !got.same(want) {
					t.Fatalf("FlowAt(%q, %d) is\n\t%s, not\n\t%s", ahead+w.text+behind, p, got.brief(), want.brief())
				}
			}
		}
	}
	if seen[0] < 1000 || seen[10] < 1000 {
		t.Errorf("right ones and faults: %v", seen)
	}
}

// P2: of a node that is cut off, all but the last thing told is told as of the whole one.
func TestFlowNodesThatAreCutOff(t *testing.T) {
	for i, letters := range nodesOf(8) {
		w := &flowScribe{r: chance(uint64(i)), gaps: []string{"", " ", "\n"}, letters: letters}
		w.node(false)
		if w.code != 0 || letters == "v" {
			continue
		}
		for cut := range len(w.text) {
			s := w.text[:cut]
			got := flowAt(s, 0)
			known := max(0, len(got.events)-1)
			if got.code == 0 || wrongStart(got.events[:known], w.events) || streamFault(s, got) != "" {
				t.Fatalf("FlowAt(%q, 0) is %s; of %q it is %s", s, got.brief(), w.text, nodeTold{events: w.events}.brief())
			}
		}
	}
}

func wrongStart(l, whole []impl.Event) bool {
	return len(l) > len(whole) || !slices.Equal(l, whole[:len(l)])
}

// Chapter 1: an answer is new memory, and hangs on the arguments alone.
func TestFlowKeepsNothing(t *testing.T) {
	texts := []string{"[&a x, *a]", "[*a]", "{a: 'b', c}", "[[[", "&a [*a]", "[!! x]", "", "*a", "[&a [", "['a'"}
	checkKeepsNothing(t, texts, func(s string) nodeTold { return flowAt(s, 0) })
}

// checkKeepsNothing reads the texts again and again, in another order, and writes into all that was answered.
func checkKeepsNothing(t *testing.T, texts []string, read func(string) nodeTold) {
	t.Helper()
	first := map[string]string{}
	for _, s := range texts {
		first[s] = read(s).brief()
	}
	for range 3 {
		slices.Reverse(texts)
		for _, s := range texts {
			a := read(s)
			if got := a.brief(); got != first[s] {
				t.Errorf("%q is now read as %s, first as %s", s, got, first[s])
			}
			whole := a.events[:cap(a.events)]
			for i := range whole {
				whole[i] = impl.Event{Kind: 77}
			}
		}
	}
}

// Every call ends, in time, also for great texts.
func TestGreatFlows(t *testing.T) {
	const many = 200000
	check := func(s string, events, place, code int) {
		t.Helper()
		a := flowAt(s, 0)
		if len(a.events) != events || a.place != place || a.code != code {
			t.Errorf("FlowAt of %q .. of %d bytes has %d events, place %d, code %d; not %d, %d, %d", s[:8], len(s), len(a.events), a.place, a.code, events, place, code)
		}
	}
	whole := func(s string, events int) {
		t.Helper()
		check(s, events, len(s), 0)
		check(s[:len(s)-1], events-1, len(s)-1, 3)
	}
	whole("["+strings.Repeat("a,", many)+"]", many+2)
	whole("["+strings.Repeat("[],", many)+"]", 2*many+2)
	whole("{"+strings.Repeat("a: b,", many)+"}", 2*many+2)
	whole("{"+strings.Repeat("'a':,", many)+"}", 2*many+2)
	whole("[&a x"+strings.Repeat(",*a", many)+" ]", many+3)
	whole("["+strings.Repeat("&a ,", many)+"]", many+2)
	whole("["+strings.Repeat(" # r\n", many)+"]", 2)
	whole("['a'"+strings.Repeat("\n", many)+"]", 3)
	whole("["+strings.Repeat("!t x,", many)+"]", many+2)
	var names strings.Builder
	for i := range many {
		fmt.Fprintf(&names, "&n%d x,*n%d,", i, i/2)
	}
	whole("["+names.String()+"]", 2*many+2)
	check(strings.Repeat("[", many), 40, 40, 12)
	check(strings.Repeat("{a: ", many), 80, 160, 12)
	check(strings.Repeat(" ", many), 0, many, 3)
	check("&"+strings.Repeat("a", many)+" x", 0, 0, 7)
	check(strings.Repeat("a", many), 1, many, 0)
	check("["+strings.Repeat("a\n", many), 2, 2*many+1, 3)
	check(strings.Repeat("&a !t ", many), 0, 6, 7)
}
