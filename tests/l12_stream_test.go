package tests

import (
	"fmt"
	"math/rand/v2"
	"regexp"
	"slices"
	"strings"
	"testing"

	"loop.example/g00666/impl"
)

// wordsOf is what DirectiveAt answers.
type wordsOf struct {
	words []string
	end   int
}

func directiveAt(s string, p int) wordsOf {
	words, end := impl.DirectiveAt(s, p)
	return wordsOf{words, end}
}

func (a wordsOf) same(b wordsOf) bool {
	return slices.Equal(a.words, b.words) && a.end == b.end
}

// P9: the words of a line, from a place on.
func TestDirectiveWords(t *testing.T) {
	for _, c := range []struct {
		s     string
		p     int
		words string // one behind the other, a comma between
		end   int
	}{
		{"%YAML 1.2", 0, "%YAML,1.2", 9}, {"%TAG !h! x", 0, "%TAG,!h!,x", 10}, {"%", 0, "%", 1}, {"a", 0, "a", 1}, {"a b c d", 0, "a,b,c,d", 7},
		// Blanks and tabs, also ahead of the first word and behind the last.
		{"a  b", 0, "a,b", 4}, {"a\tb", 0, "a,b", 3}, {"a \t \tb\t\tc ", 0, "a,b,c", 10}, {"  a", 0, "a", 3}, {"\t a\t ", 0, "a", 5}, {"a\t\nb", 0, "a", 2},
		// No other byte is white.
		{"a\vb\fc", 0, "a\vb\fc", 5}, {"a\rb", 0, "a\rb", 3}, {"a\u00a0b \u2003", 0, "a\u00a0b,\u2003", 8}, {"a\u0085b", 0, "a\u0085b", 4}, {"\x00 \xff\xfe\t\xc3", 0, "\x00,\xff\xfe,\xc3", 6},
		// A word that begins with #, and one with a # inside.
		{"a # b", 0, "a", 5}, {"a #b c", 0, "a", 6}, {"a\t#", 0, "a", 3}, {"# a", 0, "", 3}, {"#", 0, "", 1}, {" #a", 0, "", 3}, {"a#b c#", 0, "a#b,c#", 6}, {"a# b", 0, "a#,b", 4}, {"a b# #c d", 0, "a,b#", 9}, {"%TAG !h! #x", 0, "%TAG,!h!", 11}, {"a ## b", 0, "a", 6},
		// Lines without words, and what other lines have.
		{"", 0, "", 0}, {" ", 0, "", 1}, {" \t ", 0, "", 3}, {"\n", 0, "", 0}, {"\na", 0, "", 0}, {" \na", 0, "", 1}, {"a\nb", 0, "a", 1}, {"a b\nc d\n", 0, "a,b", 3}, {"a #\nb", 0, "a", 3},
		// A place in the middle of a line: what is ahead of it doesn't count.
		{"abc def", 1, "bc,def", 7}, {"abc def", 3, "def", 7}, {"abc def", 4, "def", 7}, {"abc def", 6, "f", 7}, {"a#b c", 1, "", 5}, {"a#b c", 2, "b,c", 5}, {"a # b", 1, "", 5}, {"a # b", 3, "b", 5}, {"# a", 1, "a", 3}, {"x\na b\nc", 2, "a,b", 5}, {"x\na b\nc", 3, "b", 5}, {"x\na b\nc", 6, "c", 7}, {"\u00e9a b", 1, "\xa9a,b", 5},
		// At a break, and at the end.
		{"a\nb", 1, "", 1}, {"a\n\nb", 2, "", 2}, {"a\n", 2, "", 2}, {"a b", 3, "", 3}, {"a\nb", 3, "", 3}, {"a ", 1, "", 2},
		// Outside of the text.
		{"a b\nc", -1, "a,b", 3}, {"a b\nc", lowest, "a,b", 3}, {"a b\nc", 6, "", 5}, {"a b\nc", highest, "", 5}, {"a\n", highest, "", 2}, {"", lowest, "", 0}, {"", highest, "", 0}, {"", 1, "", 0},
	} {
		want := wordsOf{nil, c.end}
		if c.words != "" {
			want.words = strings.Split(c.words, ",")
		}
		if got := directiveAt(c.s, c.p); !got.same(want) {
			t.Errorf("DirectiveAt(%q, %d) is %+v, not %+v", c.s, c.p, got, want)
		}
	}
}

var wordRule = regexp.MustCompile(`[^ \t]+`)

// directiveByRule looks for a remark in the line first, and takes the words ahead of it.
func directiveByRule(s string, p int) wordsOf {
	p = placeByRule(s, p)
	end := lineByRule(s, p).to
	line := s[p:end]
	if remark := regexp.MustCompile(`(?:^|[ \t])#`).FindStringIndex(line); remark != nil {
		line = line[:remark[1]-1]
	}
	return wordsOf{wordRule.FindAllString(line, -1), end}
}

// P9: DirectiveAt answers by its rule at every place of many texts and outside of them.
func TestDirectivesOfManyTexts(t *testing.T) {
	most := 0
	check := func(s string) {
		for p := -1; p <= len(s)+1; p++ {
			got, want := directiveAt(s, p), directiveByRule(s, p)
			if !got.same(want) {
				t.Fatalf("DirectiveAt(%q, %d) is %+v, not %+v", s, p, got, want)
			}
			most = max(most, len(got.words))
		}
	}
	eachText([]string{"a", "#", " ", "\t", "\n"}, 6, check)
	eachText([]string{"%TAG ", "!h!", "x", " #", "\u00e9", "\n", "\xff"}, 4, check)
	if most != 4 {
		t.Errorf("at most %d words were met", most)
	}
}

// Chapter 1: the words are new memory, those that a remark cuts off too.
func TestDirectiveKeepsNothing(t *testing.T) {
	for _, s := range []string{"a b c", "a b # c d", "# a b"} {
		want := directiveByRule(s, 0)
		got := directiveAt(s, 0)
		whole := append(got.words[:len(got.words):cap(got.words)], "x")
		for i := range whole {
			whole[i] = "y"
		}
		if again := directiveAt(s, 0); !again.same(want) {
			t.Errorf("DirectiveAt(%q, 0) is then %+v, not %+v", s, again, want)
		}
	}
}

// briefStream writes each event as a word: + and = are the ends of the stream, ( and ) those of a document, with its marks behind them; ! tells a fault.
func briefStream(l []impl.Event) string {
	words := []string{}
	for _, e := range l {
		word := ""
		switch e {
		case impl.Event{Kind: impl.EvStream}:
			word = "+"
		case impl.Event{Kind: impl.EvStreamEnd}:
			word = "="
		case impl.Event{Kind: impl.EvDoc}:
			word = "("
		case impl.Event{Kind: impl.EvDoc, Flag: true}:
			word = "(---"
		case impl.Event{Kind: impl.EvDocEnd}:
			word = ")"
		case impl.Event{Kind: impl.EvDocEnd, Flag: true}:
			word = ")..."
		case impl.Event{Kind: impl.EvFault, Code: e.Code, At: e.At}:
			word = fmt.Sprintf("!%d@%d", e.Code, e.At)
		default:
			word = briefEvent(e)
		}
		words = append(words, word)
	}
	return strings.Join(words, " ")
}

func checkStreams(t *testing.T, l []flowCase) {
	t.Helper()
	for _, c := range l {
		if got := briefStream(impl.Parse(c.s)); got != c.want {
			t.Errorf("Parse(%.80q) is\n\t%s, not\n\t%s", c.s, got, c.want)
		}
	}
}

// P9: streams without a document.
func TestStreamsWithoutDocuments(t *testing.T) {
	for _, s := range []string{
		"", " ", "\t", "\n", "\n\n", " \t\n\t ", "#", "# r", "# r\n", " # r", "\t# r\n\n# q", "#---", "# %YAML 1.3", " # --- a\n",
		"...", "...\n", "... ", "...\t", "... # r", "...\t# r\n", "\n...\n", "# r\n...\n# q\n", "...\n...", "...\n...\n...\n", "... #\n\n \n...\t \n# r", "...\n\t\n...\n\t# r",
	} {
		checkStreams(t, []flowCase{{s, "+ ="}})
	}
}

// P9: something behind a mark ... on its line.
func TestStreamsBehindEndMarks(t *testing.T) {
	checkStreams(t, []flowCase{
		{"... x", "+ !8@4"}, {"...\tx", "+ !8@4"}, {"... \t x # r", "+ !8@6"}, {"...\n... x", "+ !8@8"}, {"...\n\n...   ---", "+ !8@11"}, {"... ...", "+ !8@4"}, {"... %YAML 1.2\n", "+ !8@4"}, {"# r\n... 'x", "+ !8@8"}, {"... &", "+ !8@4"}, {"... x\n...\n", "+ !8@4"}, {"... \u00e9", "+ !8@4"},
		{"a\n... x", "+ ( :a !8@6"}, {"a\n...\tx", "+ ( :a !8@6"}, {"a\n...   x # r", "+ ( :a !8@8"}, {"--- a\n... ---\n", "+ (--- :a !8@10"}, {"---\n... x", "+ (--- : !8@8"}, {"- a\n... - b", "+ ( -[ :a / !8@8"}, {"|\n a\n... b", "+ ( |a~ !8@9"}, {"a\n...\n... x", "+ ( :a )... !8@10"}, {"a\n...\nb\n... c", "+ ( :a )... ( :b !8@12"}, {"&x\n... y", "+ ( &x: !8@7"},
		// These are no marks.
		{"...x", "+ ( :...x ) ="}, {"...#", "+ ( :...# ) ="}, {" ...", "+ ( :... ) ="}, {" ... x", "+ ( :..._x ) ="}, {"....", "+ ( :.... ) ="}, {"..", "+ ( :.. ) ="}, {"...,", "+ ( :..., ) ="}, {"...: a", "+ ( -{ :... :a / ) ="}, {"a\n...x\n", "+ ( :a_...x ) ="}, {"a\n ...\n", "+ ( :a_... ) ="}, {"'a'\n...x", "+ ( 'a !9@4"},
	})
}

// P9: one document and several, with marks and without.
func TestStreamDocuments(t *testing.T) {
	checkStreams(t, []flowCase{
		{"a", "+ ( :a ) ="}, {"a\n", "+ ( :a ) ="}, {"# r\n\n a # r\n", "+ ( :a ) ="}, {"a: b\nc:\n- d\n", "+ ( -{ :a :b :c -[ :d / / ) ="}, {"- a\n- b", "+ ( -[ :a :b / ) ="}, {"[a, {b: c}]", "+ ( [ :a { :b :c / / ) ="}, {"'a'", "+ ( 'a ) ="}, {`"a\n"`, "+ ( \"a~ ) ="}, {"|\n a\n", "+ ( |a~ ) ="}, {">-\n a\n b\n", "+ ( >a_b ) ="}, {"&x !t a", "+ ( &x<!t>:a ) ="}, {"&x\na: b", "+ ( &x-{ :a :b / ) ="},
		{"--- a", "+ (--- :a ) ="}, {"---\na", "+ (--- :a ) ="}, {"a\n...", "+ ( :a )... ="}, {"a\n...\n", "+ ( :a )... ="}, {"a\n... # r\n# q\n", "+ ( :a )... ="}, {"--- a\n...\n", "+ (--- :a )... ="}, {"\n# r\n--- a\n\n# q\n...\t\n\n", "+ (--- :a )... ="},
		{"a\n---\nb", "+ ( :a ) (--- :b ) ="}, {"a\n--- b\n--- c\n", "+ ( :a ) (--- :b ) (--- :c ) ="}, {"--- a\n...\n--- b\n...\n", "+ (--- :a )... (--- :b )... ="}, {"a\n...\nb", "+ ( :a )... ( :b ) ="}, {"a\n...\nb\n...\nc: d", "+ ( :a )... ( :b )... ( -{ :c :d / ) ="}, {"a\n...\n...\n...\nb", "+ ( :a )... ( :b ) ="}, {"...\na\n...\n", "+ ( :a )... ="}, {"...\n---\n", "+ (--- : ) ="}, {"a\n...\n# r\n\n  b", "+ ( :a )... ( :b ) ="}, {"a\n...\n- b", "+ ( :a )... ( -[ :b / ) ="}, {"- a\n...\nb: c\n---\n'd'\n", "+ ( -[ :a / )... ( -{ :b :c / ) (--- 'd ) ="},
		// Each column is counted anew.
		{"  a: b\n...\nc: d", "+ ( -{ :a :b / )... ( -{ :c :d / ) ="}, {"---\n  - a\n---\n- b\n", "+ (--- -[ :a / ) (--- -[ :b / ) ="}, {"---\n   a:\n     b\n...\n c:\n  d\n", "+ (--- -{ :a :b / )... ( -{ :c :d / ) ="},
		// A mark ends all that is open.
		{"a:\n  b:\n    - c\n---\nd", "+ ( -{ :a -{ :b -[ :c / / / ) (--- :d ) ="}, {"- - a:\n...\n", "+ ( -[ -[ -{ :a : / / / )... ="}, {"a:\n---\nb:\n", "+ ( -{ :a : / ) (--- -{ :b : / ) ="}, {"|\n a\n---\n", "+ ( |a~ ) (--- : ) ="}, {"a\n\n\n---\nb", "+ ( :a ) (--- :b ) ="},
		// These are no marks.
		{" ---", "+ ( :--- ) ="}, {"---a", "+ ( :---a ) ="}, {"----", "+ ( :---- ) ="}, {"---: a", "+ ( -{ :--- :a / ) ="}, {"a\n---b", "+ ( :a_---b ) ="}, {"a\n --- b", "+ ( :a_---_b ) ="}, {"--- ---", "+ (--- :--- ) ="}, {"--- ...", "+ (--- :... ) ="}, {"---\n ---\n", "+ (--- :--- ) ="}, {"---# r", "+ ( :---#_r ) ="},
	})
}

// P9: a document that is nothing, ahead of each stop.
func TestStreamNothing(t *testing.T) {
	checkStreams(t, []flowCase{
		{"---", "+ (--- : ) ="}, {"---\n", "+ (--- : ) ="}, {"--- ", "+ (--- : ) ="}, {"---\t\n\n", "+ (--- : ) ="}, {"--- # r", "+ (--- : ) ="}, {"---\n# r\n\n \t", "+ (--- : ) ="}, {"---\n---", "+ (--- : ) (--- : ) ="}, {"---\n---\n---\n", "+ (--- : ) (--- : ) (--- : ) ="}, {"--- # r\n\n# q\n---", "+ (--- : ) (--- : ) ="}, {"---\n...", "+ (--- : )... ="}, {"---\n...\n---\n...\n", "+ (--- : )... (--- : )... ="}, {"--- \n\n\n... # r\n", "+ (--- : )... ="}, {"---\n...\n...\n---", "+ (--- : )... (--- : ) ="}, {"a\n---\n", "+ ( :a ) (--- : ) ="}, {"---\n--- a", "+ (--- : ) (--- :a ) ="}, {"%YAML 1.2\n---", "+ (--- : ) ="}, {"%YAML 1.2\n---\n...\n", "+ (--- : )... ="},
		// With properties.
		{"&x", "+ ( &x: ) ="}, {"&x # r\n\n", "+ ( &x: ) ="}, {"!t &x\n---", "+ ( &x<!t>: ) (--- : ) ="}, {"!t\n...\na", "+ ( <!t>: )... ( :a ) ="}, {"--- &x", "+ (--- &x: ) ="}, {"--- !t &x # r\n...", "+ (--- &x<!t>: )... ="}, {"---\n&x\n\n---\n", "+ (--- &x: ) (--- : ) ="}, {"---\n  !t\n", "+ (--- <!t>: ) ="}, {"--- &x\n# r\n--- !t\n", "+ (--- &x: ) (--- <!t>: ) ="}, {"--- !\n", "+ (--- <!>: ) ="},
	})
}

// P9: what stands behind a mark --- on its line.
func TestStreamBehindBeginMarks(t *testing.T) {
	checkStreams(t, []flowCase{
		// Scalars and flow nodes.
		{"--- a b", "+ (--- :a_b ) ="}, {"---\ta", "+ (--- :a ) ="}, {"---  \t a\n", "+ (--- :a ) ="}, {"--- a # r", "+ (--- :a ) ="}, {"--- a\nb\n\n c", "+ (--- :a_b~c ) ="}, {"--- a\n# r\nb", "+ (--- :a !9@10"}, {"--- 'a'", "+ (--- 'a ) ="}, {"--- \"a\n  b\"", "+ (--- \"a_b ) ="}, {"--- [a,\n b] # r", "+ (--- [ :a :b / ) ="}, {"--- {a: b}\n", "+ (--- { :a :b / ) ="}, {"--- []\n--- {}\n...\n", "+ (--- [ / ) (--- { / )... ="}, {"--- -a", "+ (--- :-a ) ="}, {"--- a:b", "+ (--- :a:b ) ="}, {"--- a#b", "+ (--- :a#b ) ="},
		// Block scalars: their lines may be in the column 0.
		{"--- |\n a\n b\n", "+ (--- |a~b~ ) ="}, {"--- |\na\n b\n", "+ (--- |a~_b~ ) ="}, {"--- >-\na\nb", "+ (--- >a_b ) ="}, {"--- |2+\n   a\n\n---\n", "+ (--- |_a~~ ) (--- : ) ="}, {"--- | # r\n a\n...\n", "+ (--- |a~ )... ="}, {"--- |\n---\n", "+ (--- | ) (--- : ) ="}, {"--- |+\n\n...", "+ (--- |~ )... ="}, {"--- |", "+ (--- | ) ="}, {"--- |\n# a\n", "+ (--- |#_a~ ) ="}, {"--- |\n a\n# r\n", "+ (--- |a~ ) ="}, {"--- |\n a\nb", "+ (--- |a~ !9@9"}, {"--- |\n %a\n", "+ (--- |%a~ ) ="}, {"--- |\n%YAML 1.2\n--- b", "+ (--- |%YAML_1.2~ ) (--- :b ) ="},
		// A remark.
		{"--- # a", "+ (--- : ) ="}, {"--- # r\na", "+ (--- :a ) ="}, {"---\t# r\n- a", "+ (--- -[ :a / ) ="}, {"--- #", "+ (--- : ) ="},
		// An implicit key and a dash: a node there is inline.
		{"--- a: b", "+ (--- :a !8@5"}, {"--- a:", "+ (--- :a !8@5"}, {"--- a :\n b", "+ (--- :a !8@6"}, {"--- 'a': b", "+ (--- 'a !8@7"}, {"--- \"a\" : b", "+ (--- \"a !8@8"}, {"--- - a", "+ (--- !10@4"}, {"--- -", "+ (--- !10@4"}, {"---\t-\n", "+ (--- !10@4"}, {"--- ? a", "+ (--- !10@4"}, {"--- : a", "+ (--- !10@4"}, {"--- *x : a", "+ (--- !14@4"},
		// Properties.
		{"--- &x a", "+ (--- &x:a ) ="}, {"--- !t 'a'", "+ (--- <!t>'a ) ="}, {"--- &x !t [a]", "+ (--- &x<!t>[ :a / ) ="}, {"--- &x |\n a\n", "+ (--- &x|a~ ) ="}, {"--- &x a: b", "+ (--- &x:a !8@8"}, {"--- &x - a", "+ (--- !10@7"}, {"--- &x\na: b", "+ (--- &x-{ :a :b / ) ="}, {"--- &x # r\n\n- a", "+ (--- &x-[ :a / ) ="}, {"--- &x\n&y a: b", "+ (--- &x-{ &y:a :b / ) ="}, {"--- !t\na", "+ (--- <!t>:a ) ="}, {"--- !t\n'a'\n...", "+ (--- <!t>'a )... ="}, {"--- &x\n&y a", "+ (--- !7@7"}, {"--- &x\n&y", "+ (--- !10@9"}, {"--- &x &y a", "+ (--- !7@7"}, {"--- &x\n  - a\n  - b\n", "+ (--- &x-[ :a :b / ) ="}, {"---\n&x\n- a", "+ (--- &x-[ :a / ) ="}, {"---\n&x a: b", "+ (--- -{ &x:a :b / ) ="},
		// What begins no node.
		{"--- ,", "+ (--- !10@4"}, {"--- ]", "+ (--- !10@4"}, {"--- @a", "+ (--- !10@4"}, {"--- `a", "+ (--- !10@4"}, {"--- %a", "+ (--- !10@4"}, {"--- %YAML 1.2\n---\n", "+ (--- !10@4"}, {"---\n%a", "+ (--- !10@4"}, {"---\n}", "+ (--- !10@4"}, {"--- a\n--- ,", "+ (--- :a ) (--- !10@10"},
	})
}

// P9: right directives, and where one may stand.
func TestStreamDirectives(t *testing.T) {
	checkStreams(t, []flowCase{
		{"%YAML 1.2\n---\na", "+ (--- :a ) ="}, {"%YAML 1.1\n--- a", "+ (--- :a ) ="}, {"%YAML\t1.2 \t\n---\n", "+ (--- : ) ="}, {"%YAML 1.2 # r\n---\n", "+ (--- : ) ="}, {"%YAML 1.2 #\n---\n", "+ (--- : ) ="}, {"\n# r\n%YAML 1.2\n\n# r\n  # q\n---\n", "+ (--- : ) ="},
		{"%TAG !h! t:\n--- !h!x a", "+ (--- <t:x>:a ) ="}, {"%TAG\t!h!\tt:\t# r\n---\n!h!x a", "+ (--- <t:x>:a ) ="}, {"%TAG !! t:\n--- !!x a", "+ (--- <t:x>:a ) ="}, {"%TAG ! t:\n--- !x a", "+ (--- <t:x>:a ) ="}, {"%TAG ! t:\n--- ! a", "+ (--- <!>:a ) ="}, {"%TAG !a-1Z! x\n---\n- !a-1Z!b c", "+ (--- -[ <xb>:c / ) ="}, {"%TAG !h! t#u\n--- !h!x a", "+ (--- <t#ux>:a ) ="}, {"%TAG !h! !\n--- !h!x a", "+ (--- <!x>:a ) ="}, {"%TAG !h! ,[]{}\n--- !h!x a", "+ (--- <,[]{}x>:a ) ="}, {"%TAG !h! %\n--- !h!x a", "+ (--- <%x>:a ) ="},
		// Several, in any order.
		{"%YAML 1.2\n%TAG !h! t:\n--- !h!x a", "+ (--- <t:x>:a ) ="}, {"%TAG !h! t:\n%YAML 1.1\n--- !h!x a", "+ (--- <t:x>:a ) ="}, {"%TAG !a! x\n%TAG !b! y\n# r\n\n%TAG ! z\n---\n[!a!c , !b!c , !c ]", "+ (--- [ <xc>: <yc>: <zc>: / ) ="}, {"%TAG ! x\n%TAG !! y\n--- [!c , !!c ]", "+ (--- [ <xc>: <yc>: / ) ="}, {"%TAG !a! x\n%TAG !A! x\n--- !A!c d", "+ (--- <xc>:d ) ="},
		// The same again in another document.
		{"%YAML 1.2\n---\na\n...\n%YAML 1.1\n---\nb", "+ (--- :a )... (--- :b ) ="}, {"%YAML 1.2\n---\n...\n%YAML 1.2\n---\n...\n", "+ (--- : )... (--- : )... ="}, {"%TAG !h! t\n--- !h!a b\n...\n%TAG !h! u\n--- !h!a b", "+ (--- <ta>:b )... (--- <ua>:b ) ="}, {"a\n...\n%YAML 1.2\n--- b", "+ ( :a )... (--- :b ) ="}, {"...\n%YAML 1.2\n--- b", "+ (--- :b ) ="},
		// A handle of one document isn't known in the next.
		{"%TAG !h! t:\n--- !h!x a\n--- !h!y b", "+ (--- <t:x>:a ) (--- !15@27"}, {"%TAG !h! t:\n--- a\n...\n!h!y b", "+ (--- :a )... ( !15@22"}, {"%TAG !! t:\n--- !!x a\n--- !!x a", "+ (--- <t:x>:a ) (--- <tag:yaml.org,2002:x>:a ) ="}, {"%TAG ! t:\n--- !x a\n...\n!x a", "+ (--- <t:x>:a )... ( <!x>:a ) ="}, {"%TAG !h! t:\n--- a\n...\n%TAG !g! u:\n--- !h!x a", "+ (--- :a )... (--- !15@38"}, {"--- !h!x a\n", "+ (--- !15@4"}, {"%TAG !h! t:\n--- !g!x a", "+ (--- !15@16"}, {"%TAG !h! t:\n--- !h! a", "+ (--- !15@16"},
		// Behind the first line of a document, and in another column, a % is no directive.
		{"a\n%YAML 1.2\n---\n", "+ ( :a_%YAML_1.2 ) (--- : ) ="}, {"--- a\n%YAML 1.3\n", "+ (--- :a_%YAML_1.3 ) ="}, {"---\n%YAML 1.2\n---\n", "+ (--- !10@4"}, {"'a'\n%YAML 1.2\n---\n", "+ ( 'a !9@4"}, {"- a\n\n%YAML 1.2\n---\n", "+ ( -[ :a / !9@5"}, {"a: b\n%YAML 1.2\n---\n", "+ ( -{ :a :b !10@5"}, {"|\n a\n%YAML 1.2\n---\n", "+ ( |a~ !9@5"}, {"[a,\n%b]", "+ ( [ :a !10@4"}, {" %YAML 1.2\n---\n", "+ ( !10@1"}, {"  %", "+ ( !10@2"}, {"a\n...\n %YAML 1.2\n---\n", "+ ( :a )... ( !10@7"}, {"--- 'a'\n%YAML 1.2\n---\n", "+ (--- 'a !9@8"}, {"a%b", "+ ( :a%b ) ="}, {"'%a'", "+ ( '%a ) ="},
	})
}

// P9: directives that aren't right are fault 13 at their %.
func TestStreamWrongDirectives(t *testing.T) {
	name, prefix := strings.Repeat("n", 58), strings.Repeat("p", 60)
	for _, line := range []string{
		// No number, another one, and a word too many.
		"%YAML", "%YAML ", "%YAML 1", "%YAML 1.0", "%YAML 1.3", "%YAML 1.20", "%YAML 01.2", "%YAML 1,2", "%YAML 2.1", "%YAML v1.2", "%YAML 1.2.", "%YAML 1.2 1.2", "%YAML 1.2 x", "%YAML 1.2 x # r", "%YAML # 1.2", "%YAML #1.2", "%YAML 1.2# r", "%YAML 1 .2", "%YAML '1.2'", "%YAML1.2",
		// Words too few and too many.
		"%TAG", "%TAG !h!", "%TAG !h! # t", "%TAG !h! #t", "%TAG # !h! t", "%TAG !h! t u", "%TAG !h! t ! u", "%TAG t", "%TAG!h! t", "%TAG !h!t",
		// A Name or a Prefix that isn't right.
		"%TAG h t", "%TAG !h t", "%TAG h! t", "%TAG !!! t", "%TAG !h!! t", "%TAG !_! t", "%TAG !\u00e9! t", "%TAG !h.! t", "%TAG & t", "%TAG !" + name + "n! t", "%TAG !h! \u00e9", "%TAG !h! t\u00a0", "%TAG !h! " + prefix + "p", "%TAG t: !h!",
		// Another name behind the %.
		"%", "% ", "%%", "% YAML 1.2", "%\tTAG !h! t", "%yaml 1.2", "%Yaml 1.2", "%tag !h! t", "%TAGS !h! t", "%YAMLS 1.2", "%FOO", "%FOO bar", "%FOO # r", "%# r", "%#", "%YAM 1.2", "%TAG# !h! t", "%,", "%---", "%a: b",
	} {
		for _, c := range []struct{ ahead, told string }{{"", "+ "}, {"# r\n\n", "+ "}, {"...\n", "+ "}, {"a\n...\n", "+ ( :a )... "}, {"---\n...\n", "+ (--- : )... "}, {"%TAG !a! t\n", "+ "}, {"%TAG !a! t\n%TAG !b! t\n\n# r\n", "+ "}} {
			for _, behind := range []string{"\n---\n", "", "\n", "\na", "\n%YAML 1.2\n---\n"} {
				checkStreams(t, []flowCase{{c.ahead + line + behind, fmt.Sprintf("%s!13@%d", c.told, len(c.ahead))}})
			}
		}
	}
	checkStreams(t, []flowCase{
		{"%TAG !" + name + "! " + prefix + "\n--- a", "+ (--- :a ) ="},
		// Twice in one document.
		{"%YAML 1.2\n%YAML 1.2\n---\n", "+ !13@10"}, {"%YAML 1.1\n%YAML 1.2\n---\n", "+ !13@10"}, {"%YAML 1.2\n%TAG ! t\n%YAML 1.2\n---\n", "+ !13@19"}, {"%YAML 1.2\n%YAML 1.3\n---\n", "+ !13@10"}, {"%TAG !h! t\n%TAG !h! u\n---\n", "+ !13@11"}, {"%TAG !h! t\n%TAG !h! t\n---\n", "+ !13@11"}, {"%TAG ! t\n\n# r\n%TAG ! u\n---\n", "+ !13@14"}, {"%TAG !! t\n%TAG !h! u\n%TAG !! t\n---\n", "+ !13@21"}, {"%TAG !a! t\n%TAG !b! t\n%YAML 1.2\n%TAG !b! t\n---\n", "+ !13@32"}, {"a\n...\n%YAML 1.2\n%YAML 1.2\n---\n", "+ ( :a )... !13@16"},
		// A fault in the second of two documents.
		{"%YAML 1.2\n---\n...\n%YAML 1.3\n---\n", "+ (--- : )... !13@18"}, {"%YAML 1.2\n---\n...\n%YAML 1.2\n%YAML 1.2\n---\n", "+ (--- : )... !13@28"},
	})
}

// P9: behind a directive there must be a mark --- or another one.
func TestStreamBehindDirectives(t *testing.T) {
	for _, line := range []string{"%YAML 1.2", "%TAG !h! t", "%YAML 1.1\n%TAG !! t # r", "%TAG ! t\n# r\n%YAML 1.2"} {
		for _, c := range []struct {
			s  string
			at int
		}{
			{"", 0}, {"\n", 1}, {" # r", 4}, {"\n# r\n\n", 6}, {"\n  ", 3}, {"\n\t", 2},
			{"\n...", 1}, {"\n...\n", 1}, {"\n\n... # r\n", 2}, {"\n... x", 1}, {"\n...\n---\n", 1},
			{"\na", 1}, {"\n  a", 3}, {"\n- a", 1}, {"\n'a", 1}, {"\n[", 1}, {"\n---a", 1}, {"\n ---", 2}, {"\n----", 1}, {"\n--", 1}, {"\n# r\n\n&x", 6}, {"\n %YAML 1.2\n---", 2}, {"\n\ta", 2}, {"\n \t---", 3}, {"\na: b\n---\n", 1}, {"\n---: a", 1}, {"\n\t%TAG !a! t", 2}, {"\n*x", 1}, {"\n|\n a", 1}, {"\n!!", 1},
		} {
			for _, ahead := range []flowCase{{"", "+ "}, {"a\n...\n", "+ ( :a )... "}} {
				s := ahead.s + line + c.s
				checkStreams(t, []flowCase{{s, fmt.Sprintf("%s!13@%d", ahead.want, len(ahead.s+line)+c.at)}})
			}
		}
	}
}

// P9: a tab ahead of the first thing of the line on which a document's node begins, or of what is behind it.
func TestStreamTabs(t *testing.T) {
	checkStreams(t, []flowCase{
		{"\ta", "+ ( !2@0"}, {" \ta", "+ ( !2@1"}, {"\t\ta: b", "+ ( !2@0"}, {"  \t - a", "+ ( !2@2"}, {"\n# r\n\t'a", "+ ( !2@5"}, {"\t...", "+ ( !2@0"}, {"\t---", "+ ( !2@0"}, {"\t%YAML 1.2\n---", "+ ( !2@0"}, {"\t@", "+ ( !2@0"}, {"...\n\ta", "+ ( !2@4"}, {"a\n...\n \tb", "+ ( :a )... ( !2@7"},
		{"---\n\ta", "+ (--- !2@4"}, {"---\n \t- a", "+ (--- !2@5"}, {"--- # r\n\n\t[", "+ (--- !2@9"}, {"---\n\t---", "+ (--- !2@4"}, {"--- &x\n\ta", "+ (--- !2@7"}, {"%YAML 1.2\n---\n\ta", "+ (--- !2@14"}, {"---\n...\n---\n\ta", "+ (--- : )... (--- !2@12"},
		{"'a'\n\tb", "+ ( 'a !2@4"}, {"'a'\n \t ...", "+ ( 'a !2@5"}, {"- a\n\t# r\n\t- b", "+ ( -[ :a !2@9"}, {"|\n a\n\tb", "+ ( |a~ !2@5"}, {"[a]\n\n\t---", "+ ( [ :a / !2@5"}, {"--- 'a'\n\t%b", "+ (--- 'a !2@8"}, {"a:\n\tb", "+ ( -{ :a !2@3"}, {"&x\n\ta", "+ ( !2@3"},
		// Tabs that are ahead of nothing, of a remark, or behind something.
		{"\t", "+ ="}, {"\t# r", "+ ="}, {"\t# r\na", "+ ( :a ) ="}, {"\t\na\n\t", "+ ( :a ) ="}, {"---\n\t\n\t# r\n- a", "+ (--- -[ :a / ) ="}, {"---\n\t", "+ (--- : ) ="}, {"---\n\t\n---", "+ (--- : ) (--- : ) ="}, {"---\ta", "+ (--- :a ) ="}, {"--- \ta", "+ (--- :a ) ="}, {"a\n\tb", "+ ( :a_b ) ="}, {"'a'\t\n\t\n...", "+ ( 'a )... ="}, {"'a'\t# r\n", "+ ( 'a ) ="}, {"-\ta", "+ ( -[ :a / ) ="}, {"[\n\ta]", "+ ( [ :a / ) ="}, {"...\t\n\t\n", "+ ="}, {"a\n...\t# r\n\t# q\nb", "+ ( :a )... ( :b ) ="},
	})
}

// P9: something behind the node of a document, on its line and on a later one.
func TestStreamBehindNodes(t *testing.T) {
	checkStreams(t, []flowCase{
		{"'a' b", "+ ( 'a !8@4"}, {"'a'b", "+ ( 'a !8@3"}, {"'a'# r", "+ ( 'a !8@3"}, {"'a'\t'b'", "+ ( 'a !8@4"}, {"[a] b", "+ ( [ :a / !8@4"}, {"[a]]", "+ ( [ :a / !8@3"}, {"{}: a", "+ ( { / !8@2"}, {"{a: b},", "+ ( { :a :b / !8@6"}, {"[]\t---", "+ ( [ / !8@3"}, {"--- 'a' 'b'", "+ (--- 'a !8@8"}, {"--- [a] ...", "+ (--- [ :a / !8@8"}, {"&x 'a' b", "+ ( &x'a !8@7"}, {"--- &x\n'a' b", "+ (--- &x'a !8@11"}, {"a\nb: c", "+ ( :a_b !8@3"}, {"'a\nb': c", "+ ( 'a_b !8@5"}, {"a: b: c", "+ ( -{ :a :b !8@4"}, {"- 'a' b", "+ ( -[ 'a !8@6"}, {"a\n---\n'b' c", "+ ( :a ) (--- 'b !8@10"}, {"a\n...\n'b' c", "+ ( :a )... ( 'b !8@10"},
		{"'a'\nb", "+ ( 'a !9@4"}, {"'a'\n\n  b", "+ ( 'a !9@7"}, {"'a' # r\n# q\n- b", "+ ( 'a !9@12"}, {"[a]\n'b'", "+ ( [ :a / !9@4"}, {"{}\n{}", "+ ( { / !9@3"}, {"|\n a\nb", "+ ( |a~ !9@5"}, {"|\n  a\n b", "+ ( |a~ !9@7"}, {"a # r\nb", "+ ( :a !9@6"}, {"- a\nb: c", "+ ( -[ :a / !9@4"}, {"- a\nb", "+ ( -[ :a / !9@4"}, {"- a\n-b", "+ ( -[ :a / !9@4"}, {"  a: b\nc: d", "+ ( -{ :a :b / !9@7"}, {"  a: b\n c: d", "+ ( -{ :a :b / !9@8"}, {" - a\n- b", "+ ( -[ :a / !9@5"}, {" - a\nb", "+ ( -[ :a / !9@5"}, {"  a:\n b", "+ ( -{ :a : / !9@6"}, {"--- 'a'\n'b'", "+ (--- 'a !9@8"}, {"---\n- a\nb", "+ (--- -[ :a / !9@8"}, {"--- |\n  a\n b", "+ (--- |a~ !9@11"}, {"---\n[a]\nb: c", "+ (--- [ :a / !9@8"}, {"'a'\n....", "+ ( 'a !9@4"}, {"'a'\n ---", "+ ( 'a !9@5"}, {"'a'\n%", "+ ( 'a !9@4"}, {"'a'\n...\n'b'\n'c'", "+ ( 'a )... ( 'b !9@12"},
		// No list is in the column of the mark, nor is a node in the column 0 the same as nothing.
		{"--- 'a'\n- b", "+ (--- 'a !9@8"}, {"--- &x\n- a\nb", "+ (--- &x-[ :a / !9@11"}, {"---\n- a\n  - b\nc", "+ (--- -[ :a_-_b / !9@14"},
	})
}

// P2, P9: an alias stands for a node of its own document alone.
func TestStreamAliases(t *testing.T) {
	checkStreams(t, []flowCase{
		{"- &a x\n- *a", "+ ( -[ &a:x *a / ) ="}, {"--- [&a x, *a]\n--- [&a y, *a]", "+ (--- [ &a:x *a / ) (--- [ &a:y *a / ) ="}, {"a: &x b\n*x : c", "+ ( -{ :a &x:b *x :c / ) ="},
		{"*a", "+ ( !14@0"}, {"--- *a", "+ (--- !14@4"}, {"--- &a x\n--- *a", "+ (--- &a:x ) (--- !14@13"}, {"&a x\n...\n*a", "+ ( &a:x )... ( !14@9"}, {"&a x\n...\n- b\n- *a", "+ ( &a:x )... ( -[ :b !14@15"}, {"--- &a x\n--- &b y\n--- [*b, *a]", "+ (--- &a:x ) (--- &b:y ) (--- [ !14@23"}, {"--- &a x\n--- [&b y, *b, *a]", "+ (--- &a:x ) (--- [ &b:y *b !14@24"}, {"- &a x\n...\n*a : b", "+ ( -[ &a:x / )... ( -{ !14@11"}, {"&a x\n---\n- *a\n- &a y", "+ ( &a:x ) (--- -[ !14@11"},
		// Not ended.
		{"&a [*a]", "+ ( &a[ !14@4"}, {"&a\n- *a", "+ ( &a-[ !14@5"}, {"&a\nb: *a", "+ ( &a-{ :b !14@6"}, {"--- &a\n- b\n- - *a", "+ (--- &a-[ :b -[ !14@15"}, {"--- &a x\n--- &a [*a]", "+ (--- &a:x ) (--- &a[ !14@17"}, {"- &a x\n- &a [*a]", "+ ( -[ &a:x &a[ !14@13"},
		{"&a *b", "+ ( !16@3"}, {"--- &a *a", "+ (--- !16@7"}, {"*", "+ ( !7@0"}, {"--- &a x\n--- &b *a", "+ (--- &a:x ) (--- !16@16"},
	})
}

// P9: the faults of what is within a document: what was told ahead of them stays, and nothing is told behind.
func TestStreamFaultsWithin(t *testing.T) {
	for _, c := range []struct {
		s, told  string
		code, at int
	}{
		{"'a", "", 3, -1}, {"[a", "[ :a ", 3, -1}, {"{a: ", "{ :a ", 3, -1}, {"- a\n- \"b\n", "-[ :a ", 3, -1}, {"a: [b,\n", "-{ :a [ :b ", 3, -1},
		{"'a\n---\nb'", "", 4, 3}, {"[a\n... ]", "[ :a ", 4, 3}, {"- b: \"c\n--- d\"", "-[ -{ :b ", 4, 8}, {"a: {b: c,\n...\n}", "-{ :a { :b :c ", 4, 10},
		{`"\q"`, "", 5, 1}, {`- "a\x4g"`, "-[ ", 5, 4}, {"| x", "", 6, 2}, {"a: |-1x", "-{ :a ", 6, 6}, {"- >\n a\n- >22\n", "-[ >a~ ", 6, 11},
		{"&a &b c", "", 7, 3}, {"- &", "-[ ", 7, 2}, {"[*]", "[ ", 7, 1}, {"!t[]", "", 7, 0}, {"- a\n- 'b' c", "-[ :a 'b ", 8, 10}, {"a: [b] c", "-{ :a [ :b / ", 8, 7},
		{"a: 'b'\n  c: d", "-{ :a 'b ", 9, 9}, {"- 'a'\n - b", "-[ 'a ", 9, 7}, {"@", "", 10, 0}, {"a: @", "-{ :a ", 10, 3}, {"- ,", "-[ ", 10, 2}, {"a: b\n'c'\n", "-{ :a :b ", 10, 5}, {"[a b: c]", "[ :a_b ", 11, 4}, {"a: {b}]", "-{ :a { :b : / ", 8, 6}, {"{'a' b}", "{ 'a : ", 11, 5},
		{"[*a]", "[ ", 14, 1}, {"a: *b", "-{ :a ", 14, 3}, {"!! a", "", 15, 0}, {"- !h!x a", "-[ ", 15, 2}, {"- &a *b", "-[ ", 16, 5}, {"a:\n\tb", "-{ :a ", 2, 3},
	} {
		for _, doc := range []flowCase{{"", "+ ( "}, {"# r\n", "+ ( "}, {"---\n", "+ (--- "}, {"a\n...\n", "+ ( :a )... ( "}, {"%YAML 1.2\n---\n", "+ (--- "}, {"- x\n---\n\n", "+ ( -[ :x / ) (--- "}} {
			at := len(doc.s) + c.at
			for _, behind := range []string{"", "\n...\n", "\n---\nb\n"} {
				if c.code == 3 && behind != "" {
					continue
				}
				s := doc.s + c.s + behind
				if c.code == 3 {
					at = len(s)
				}
				checkStreams(t, []flowCase{{s, fmt.Sprintf("%s%s!%d@%d", doc.want, c.told, c.code, at)}})
			}
		}
	}
}

// P2, P9: MaxDepth collections may be open in each document.
func TestStreamDepth(t *testing.T) {
	open, openTold := deepFlow(40, "qm", "")
	closed, closedTold := closedFlow(40, "qm")
	flow := flowCase{open + "x" + closed, openTold + ":x " + strings.TrimSpace(closedTold)}
	block, blockTold, _ := deepBlock(40, "qm", "")
	for _, c := range []flowCase{flow, {block + "x", blockTold + ":x" + strings.Repeat(" /", 40)}} {
		checkStreams(t, []flowCase{
			{c.s, "+ ( " + c.want + " ) ="}, {c.s + "\n---\n" + c.s + "\n...\n" + c.s, "+ ( " + c.want + " ) (--- " + c.want + " )... ( " + c.want + " ) ="},
			{c.s + "\n--- " + flow.s, "+ ( " + c.want + " ) (--- " + flow.want + " ) ="},
		})
	}
	checkStreams(t, []flowCase{
		{block + "[x]", "+ ( " + blockTold + fmt.Sprintf("!12@%d", len(block))},
		{"a\n---\n" + block + "- x", "+ ( :a ) (--- " + blockTold + fmt.Sprintf("!12@%d", len(block)+6)},
		{"--- " + strings.Repeat("[", 41), "+ (--- " + strings.Repeat("[ ", 40) + "!12@44"}, {strings.Repeat("- ", 40) + "a: b", "+ ( " + strings.Repeat("-[ ", 40) + "!12@80"},
	})
}

// P9: a text of MaxText bytes and one of more; what may not stand in a text is asked ahead of all else.
func TestStreamTexts(t *testing.T) {
	a := func(n int) string { return strings.Repeat("a", n) }
	checkStreams(t, []flowCase{
		{a(60000), "+ ( :" + a(60000) + " ) ="}, {a(60001), "+ !1@60001"}, {a(70000), "+ !1@70000"}, {"'" + a(59998) + "'", "+ ( '" + a(59998) + " ) ="}, {"'" + a(59999) + "'", "+ !1@60001"}, {strings.Repeat("\n", 60000), "+ ="}, {strings.Repeat("\n", 60001), "+ !1@60001"}, {strings.Repeat(" ", 60001), "+ !1@60001"}, {strings.Repeat("\u00e9", 30000), "+ ( :" + strings.Repeat("\u00e9", 30000) + " ) ="}, {strings.Repeat("\u00e9", 30001), "+ !1@60002"}, {"... x\n" + a(60000), "+ !1@60006"},
		// A text that is too long isn't asked what stands in it.
		{"a\x00" + a(59999), "+ !1@60001"}, {"\xff" + a(60000), "+ !1@60001"}, {a(60000) + "\x00", "+ !1@60001"}, {a(59999) + "\x00", "+ !1@59999"}, {"\x00" + a(59999), "+ !1@0"},
		// Bytes and runes that may not stand there.
		{"\x00", "+ !1@0"}, {"a\x00", "+ !1@1"}, {"a: b\nc\x01: d", "+ !1@6"}, {"\xff", "+ !1@0"}, {"a\xc3", "+ !1@1"}, {"a\xc3b", "+ !1@1"}, {"\xc0\x80", "+ !1@0"}, {"\u00e9\xe2\x82", "+ !1@2"}, {"a\xed\xa0\x80", "+ !1@1"}, {"\xf4\x90\x80\x80", "+ !1@0"}, {"\r", "+ !1@0"}, {"a\r\nb", "+ !1@1"}, {"ab\x7f", "+ !1@2"}, {"\x1b", "+ !1@0"}, {"a\u0085", "+ !1@1"}, {"\u009f", "+ !1@0"}, {"\ufeffa", "+ !1@0"}, {"a\ufeff", "+ !1@1"}, {"\ufffe", "+ !1@0"}, {"\n\uffff", "+ !1@1"}, {"\v", "+ !1@0"}, {"\b", "+ !1@0"},
		{"\u00a0", "+ ( :\u00a0 ) ="}, {"\ufffd\u2028", "+ ( :\ufffd\u2028 ) ="}, {"'\U0010ffff'", "+ ( '\U0010ffff ) ="}, {"~ a\t~", "+ ( :~_a\t~ ) ="}, {`"\0\x7f"`, "+ ( \"\x00\x7f ) ="},
		// Ahead of every other fault, wherever it is.
		{"'a\n# \x00", "+ !1@5"}, {"%YAML 1.3\n---\n\x00", "+ !1@14"}, {"... x\n\xff", "+ !1@6"}, {"\ta\x00", "+ !1@2"}, {"# \x00", "+ !1@2"}, {"a\n...\n\x7f", "+ !1@6"}, {"'\x00'", "+ !1@1"}, {"[[[\x00", "+ !1@3"}, {"a\x00\x01", "+ !1@1"},
	})
}

// P9: which fault is told where two could be: the one that is met first.
func TestStreamFirstFaults(t *testing.T) {
	checkStreams(t, []flowCase{
		{"%YAML 1.3\n... x", "+ !13@0"}, {"%YAML 1.2\n... x", "+ !13@10"}, {"... x\n%YAML 1.3\n", "+ !8@4"}, {"%YAML 1.2\n%YAML 1.2\na", "+ !13@10"}, {"%YAML 1.2\n%FOO\na", "+ !13@10"}, {"%FOO\n%YAML 1.3", "+ !13@0"}, {"%YAML 1.2\n\ta", "+ !13@11"}, {"%TAG !h! t\n'a", "+ !13@11"},
		{"\t'a", "+ ( !2@0"}, {"\t@", "+ ( !2@0"}, {"'a' b\n... c", "+ ( 'a !8@4"}, {"'a' b\n\tc", "+ ( 'a !8@4"}, {"'a'\n\tb\n... c", "+ ( 'a !2@4"}, {"'a'\nb\n... c", "+ ( 'a !9@4"}, {"'a'\n... b\n'c", "+ ( 'a !8@8"}, {"--- 'a' b\n--- 'c", "+ (--- 'a !8@8"}, {"--- 'a' \"b", "+ (--- 'a !8@8"}, {"--- a: 'b", "+ (--- :a !8@5"}, {"--- - 'b", "+ (--- !10@4"}, {"--- &x &y *z", "+ (--- !7@7"}, {"--- !!\n%", "+ (--- !15@4"}, {"--- *a *b", "+ (--- !14@4"}, {"- a\nb 'c", "+ ( -[ :a / !9@4"},
		{"a\n--- 'b\n... c", "+ ( :a ) (--- !4@9"}, {"a\n... b\n--- 'c", "+ ( :a !8@6"}, {"--- |x\n\ta", "+ (--- !6@5"}, {"---\n\t'a\n%", "+ (--- !2@4"},
	})
}

var (
	versionRule = regexp.MustCompile(`^%YAML[ \t]+1\.[12](?:[ \t]+(?:#.*)?)?$`)
	tagLineRule = regexp.MustCompile(`^%TAG[ \t]+([^ \t#][^ \t]*)[ \t]+([^ \t#][^ \t]*)(?:[ \t]+(?:#.*)?)?$`)
)

// directivesByRule reads directives by patterns of whole lines; a code of 0 beside the place behind them.
func directivesByRule(s string, at int) (known []impl.Handle, place, code int) {
	first := at
	versions, names := 0, map[string]int{}
	for at < len(s) && s[at] == '%' && colByRule(s, at) == 0 {
		line := lineByRule(s, at)
		tag := tagLineRule.FindStringSubmatch(s[at:line.to])
		switch {
		case versionRule.MatchString(s[at:line.to]):
			versions++
		case tag != nil && handleByPattern(impl.Handle{Name: tag[1], Prefix: tag[2]}):
			known = append(known, impl.Handle{Name: tag[1], Prefix: tag[2]})
			names[tag[1]]++
		default:
			return nil, at, 13
		}
		if versions > 1 || tag != nil && names[tag[1]] > 1 {
			return nil, at, 13
		}
		at = gapByRule(s, line.to)
	}
	if at > first && markByRule(s, at) != 1 {
		return nil, at, 13
	}
	return known, at, 0
}

// rootByRule reads the node of a document from its mark or its beginning on, up to the stop behind it.
func rootByRule(s string, at int, known []impl.Handle) nodeTold {
	r := &blockRule{flowRule: flowRule{s: s, known: known}, n: -1}
	next := flowOver
	if markByRule(s, at) != 1 {
		if r.comeTo(at) {
			next = "node"
		}
	} else if q, alone := restByRule(s, at+3); !alone {
		r.at, r.inline, next = q, true, "node"
	} else if deeper, ok := r.deeperAt(at + 3); deeper {
		next = "node"
	} else if ok {
		r.tellText(impl.Event{}, 1, "")
		r.over = true
	}
	r.runFrom(next)
	if r.out.code != 0 {
		return r.out
	}
	if q, alone := restByRule(s, r.at); !r.over && !alone {
		r.fault(8, q)
	} else if r.comeTo(r.at) && r.stop() == 0 {
		r.fault(9, r.at)
	}
	if r.out.code == 0 {
		r.out.place = r.at
	}
	return r.out
}

// streamByRule is the second telling of a stream, of a clean text.
func streamByRule(s string) []impl.Event {
	out := []impl.Event{{Kind: 1}}
	fault := func(code, at int) []impl.Event { return append(out, impl.Event{Kind: 10, Code: code, At: at}) }
	inside := false
	for at := gapByRule(s, 0); ; at = gapByRule(s, at) {
		ended := markByRule(s, at) == 2
		if ended {
			rest, alone := restByRule(s, at+3)
			if !alone {
				return fault(8, rest)
			}
			at = rest
		}
		if inside {
			out = append(out, impl.Event{Kind: 8, Flag: ended})
			inside = false
		}
		if ended {
			continue
		}
		if at == len(s) {
			return append(out, impl.Event{Kind: 9})
		}
		known, from, code := directivesByRule(s, at)
		if code != 0 {
			return fault(code, from)
		}
		out = append(out, impl.Event{Kind: 2, Flag: markByRule(s, from) == 1})
		node := rootByRule(s, from, known)
		out = append(out, node.events...)
		if node.code != 0 {
			return fault(node.code, node.place)
		}
		at, inside = node.place, true
	}
}

// toldFault tells what keeps the events of a text from being a stream, as P2 has it.
func toldFault(s string, l []impl.Event) string {
	if !impl.Nested(l) {
		return "it isn't nested"
	}
	from, depth := 0, 0
	for i, e := range l {
		switch e.Kind {
		case impl.EvDoc:
			from = i
		case impl.EvSeq, impl.EvMap:
			depth++
		case impl.EvEnd:
			depth--
		case impl.EvAlias:
			if !endedByRule(l[from:i], e.Text) {
				return "an alias isn't behind the end of its node"
			}
		case impl.EvFault:
			if i < len(l)-1 {
				return "a fault isn't the last event"
			}
			if e.At > len(s) || e.Code < 1 || e.Code > 16 {
				return "no such fault is known"
			}
		}
		if depth > impl.MaxDepth {
			return "it is too deep"
		}
	}
	if last := l[len(l)-1]; last.Kind != impl.EvFault && last.Kind != impl.EvStreamEnd {
		return "it isn't ended"
	}
	return ""
}

// checkStream holds Parse against the second telling and against P2, and counts the codes that it tells, and its documents.
func checkStream(t *testing.T, s string, codes, docs map[int]int) {
	t.Helper()
	got := impl.Parse(s)
	if want := streamByRule(s); !slices.Equal(got, want) {
		t.Fatalf("Parse(%q) is\n\t%s, not\n\t%s", s, briefStream(got), briefStream(want))
	}
	if wrong := toldFault(s, got); wrong != "" {
		t.Fatalf("Parse(%q) is\n\t%s: %s", s, briefStream(got), wrong)
	}
	codes[got[len(got)-1].Code]++
	n := 0
	for _, e := range got {
		if e.Kind == impl.EvDocEnd {
			n++
		}
	}
	docs[n]++
}

// P2, P9: Parse answers by its rule, and what it tells is a stream, for many texts.
func TestStreamsOfManyTexts(t *testing.T) {
	codes, docs := map[int]int{}, map[int]int{}
	check := func(s string) { checkStream(t, s, codes, docs) }
	eachText([]string{"---", "...", "\n", " ", "a", "'b'"}, 6, check)
	eachText([]string{"%YAML 1.2", "%YAML 1.3", "%TAG !h! t", "---", "...", "\n", " # r", "!h!x a"}, 5, check)
	eachText([]string{"--- ", "---\n", "...\n", "&x ", "*x", "a: ", "- ", "|\n", "b", "\n", "\t"}, 4, check)
	eachText([]string{"\n--- ", "\n... ", "[", "]", "{", "}", ",", "&x ", "*x", ": ", "'"}, 4, check)
	eachText([]string{"%", "YAML", " ", "1.1", "1.2", "#", "\n", "---\n", "...\n"}, 5, check)
	wantCodes(t, codes, 0, 2, 3, 4, 7, 8, 9, 10, 11, 13, 14, 15, 16)
	wantCodes(t, docs, 0, 1, 2, 3)
}

// P2, P9: the same of texts of whole lines.
func TestStreamsOfManyLines(t *testing.T) {
	codes, docs := map[int]int{}, map[int]int{}
	check := func(s string) { checkStream(t, s, codes, docs) }
	lines := []string{"---\n", "...\n", "--- a\n", "--- &x\n", "%YAML 1.1\n", "%TAG ! u:\n", "a: b\n", "- *x\n", "!c\n", "  'd'\n"}
	eachText(lines, 5, check)
	lines = []string{"%TAG !! t # r\n", "%TAG !h! u\n", "%TAG !H! v w\n", "%YAML 1.2 # r\n", "%YAML 1.2 x\n", "---\t!h!a b\n", "--- !!c\n", "...\t\n", "... .\n", " %YAML 1.2\n", "\t# r\n", "!H!d e"}
	eachText(lines, 4, check)
	wantCodes(t, codes, 0, 8, 9, 10, 13, 14, 15)
	wantCodes(t, docs, 0, 1, 2, 3, 4, 5)
}

// P2, P9: the same of longer texts by chance.
func TestStreamsByChance(t *testing.T) {
	codes, docs := map[int]int{}, map[int]int{}
	r := chance(21)
	heads := []string{"---\n", "--- ", "---\n", "...\n", "...\n---\n", "%YAML 1.2\n---\n", "%TAG !h! t:\n---\n", "%TAG ! a\n%TAG !! b\n--- ", "# r\n---\t", "...\n%TAG !h! u\n", "%YAML 1.1\n"}
	things := []string{"k:\n", "k: a\n", "k: &a b\n", "- *a\n", "- &a\n", "  - [a, &a b]\n", "'b\n", "b'\n", "|\n", "  c\n", "!h!x a\n", "!!y\n", "!z\n", "&a\n", "&a &b c\n", "- - b\n", "{k: *a}\n", "\n", "# r\n", "d", "\t", "a\n", "'e'\n", "[]\n", "- |\n"}
	for range 30000 {
		s := ""
		for range r.IntN(5) {
			s += heads[r.IntN(len(heads))]
			for range r.IntN(4) {
				s += things[r.IntN(len(things))]
			}
		}
		checkStream(t, s, codes, docs)
	}
	wantCodes(t, codes, 0, 2, 3, 4, 7, 8, 9, 10, 13, 14, 15)
	wantCodes(t, docs, 0, 1, 2, 3, 4)
}

// P2, P9: the same of texts of many documents, which tell more than may wait at once, and with the deepest collections.
func TestStreamsOfManyDocuments(t *testing.T) {
	codes, docs := map[int]int{}, map[int]int{}
	for n := range 45 {
		for _, doc := range []string{"---\n", "--- a\n...\n", "---\n- a\n", "a: b\n...\n", "%YAML 1.2\n--- &x [a, b]\n...\n"} {
			s := strings.Repeat(doc, n)
			checkStream(t, s, codes, docs)
			checkStream(t, s+"--- 'a' b", codes, docs)
			checkStream(t, s+"---\n"+strings.Repeat("- x\n", n), codes, docs)
			checkStream(t, s+"... x", codes, docs)
		}
	}
	r := chance(22)
	for range 300 {
		s := ""
		for range 1 + r.IntN(3) {
			deep, _, _ := deepBlock(38+r.IntN(4), []string{"q", "m", "qm"}[r.IntN(3)], "")
			s += "---\n" + deep + []string{"a", "[a]", "- a", "{a: [b]}", "[[[a]]]"}[r.IntN(5)] + "\n"
		}
		checkStream(t, s, codes, docs)
	}
	wantCodes(t, codes, 0, 8, 12)
}

// streamScribe writes a stream of documents, and what is to be told of it.
type streamScribe struct {
	r      *rand.Rand
	text   string
	events []impl.Event
	ended  bool // the document ahead has a mark behind it, or there is none
}

func (w *streamScribe) oneOf(l ...string) string {
	return l[w.r.IntN(len(l))]
}

func (w *streamScribe) tell(kind int, flag bool) {
	w.events = append(w.events, impl.Event{Kind: kind, Flag: flag})
}

// gap writes whole lines that tell nothing.
func (w *streamScribe) gap() {
	w.text += w.oneOf("", "", "", "\n", "# r\n", " \t# %YAML 1.3\n\n", "\t\n")
}

func (w *streamScribe) lineEnd() {
	w.text += w.oneOf("", "", " ", "\t ", " # r", "\t#") + "\n"
}

// head writes directives, if any, and tells what the handles stand for that they name.
func (w *streamScribe) head() (known map[string]string, some bool) {
	known = map[string]string{}
	var lines []string
	if w.r.IntN(2) == 0 {
		lines = append(lines, w.oneOf("%YAML 1.1", "%YAML\t1.2"))
	}
	for _, name := range []string{"!", "!!", "!other!"} {
		if w.r.IntN(3) == 0 {
			known[name] = w.oneOf("p:", "!", "q,#")
			lines = append(lines, "%TAG \t"+name+"  "+known[name])
		}
	}
	w.r.Shuffle(len(lines), func(i, j int) { lines[i], lines[j] = lines[j], lines[i] })
	for _, line := range lines {
		w.text += line
		w.lineEnd()
		w.gap()
	}
	return known, len(lines) > 0
}

// document writes a document with the node of which the letters tell.
func (w *streamScribe) document(letters string) {
	known, directed := map[string]string{}, false
	if w.ended {
		w.gap()
		known, directed = w.head()
	}
	marked := directed || !w.ended || w.r.IntN(2) == 0
	w.tell(impl.EvDoc, marked)
	b := &blockScribe{r: w.r, letters: letters}
	if marked {
		w.text += "---"
		b.node(-1, "mark")
	} else {
		b.node(-1, "line")
	}
	w.text += b.text
	w.events = append(w.events, retagged(b.events, known)...)
	if !b.atLine {
		w.text += "\n"
		w.gap()
	}
	w.ended = w.r.IntN(2) == 0
	w.tell(impl.EvDocEnd, w.ended)
	for again := w.ended; again; again = w.r.IntN(4) == 0 {
		w.text += "..."
		w.lineEnd()
	}
}

// retagged tells the events with the tags that the handles give them.
func retagged(l []impl.Event, known map[string]string) []impl.Event {
	for i, e := range l {
		prefix, plain := known["!"]
		core, short := known["!!"]
		switch {
		case plain && e.Tag == "!t":
			l[i].Tag = prefix + "t"
		case short && e.Tag == "tag:yaml.org,2002:str":
			l[i].Tag = core + "str"
		}
	}
	return l
}

// writtenStreams hands on streams of up to so many documents, written in several ways.
func writtenStreams(count, most int, f func(w *streamScribe)) {
	nodes := slices.DeleteFunc(nodesOf(7), func(letters string) bool { return !keysAreScalars(letters) })
	for i := range count {
		w := &streamScribe{r: chance(uint64(i)), ended: true}
		w.tell(impl.EvStream, false)
		for range w.r.IntN(most + 1) {
			// Small nodes stand first in the list; they should be met often.
			w.document(nodes[w.r.IntN(1+w.r.IntN(len(nodes)))])
		}
		w.tell(impl.EvStreamEnd, false)
		f(w)
	}
}

// P9: streams are read as they were written, with directives and marks of all kinds.
func TestStreamsAreReadAsWritten(t *testing.T) {
	kinds, tags := map[impl.Event]int{}, map[string]int{}
	writtenStreams(20000, 4, func(w *streamScribe) {
		if got := impl.Parse(w.text); !slices.Equal(got, w.events) {
			t.Fatalf("Parse(%q) is\n\t%s, not\n\t%s", w.text, briefStream(got), briefStream(w.events))
		}
		for _, e := range w.events {
			kinds[impl.Event{Kind: e.Kind, Flag: e.Flag, Style: e.Style}]++
			tags[e.Tag]++
		}
	})
	for _, e := range []impl.Event{{Kind: impl.EvDoc}, {Kind: impl.EvDoc, Flag: true}, {Kind: impl.EvDocEnd}, {Kind: impl.EvDocEnd, Flag: true}, {Kind: impl.EvAlias}, {Kind: impl.EvSeq, Style: impl.StBlock}, {Kind: impl.EvMap, Style: impl.StFlow}, {Kind: impl.EvText, Style: impl.StFolded}} {
		if kinds[e] < 500 {
			t.Errorf("%v was met %d times", e, kinds[e])
		}
	}
	for _, tag := range []string{"!t", "p:t", "q,#t", "p:str", "q,#str", "!str", "tag:yaml.org,2002:str", "!"} {
		if tags[tag] < 50 {
			t.Errorf("the tag %q was met %d times", tag, tags[tag])
		}
	}
}

// P2, P9: a stream that is cut off anywhere is told by its rule.
func TestStreamsThatAreCutOff(t *testing.T) {
	codes, docs := map[int]int{}, map[int]int{}
	writtenStreams(300, 3, func(w *streamScribe) {
		for cut := range len(w.text) {
			if !impl.Nested(w.events) {
				t.Fatalf("%q isn't nested", w.text)
			}
			checkStream(t, w.text[:cut], codes, docs)
		}
	})
	wantCodes(t, codes, 0, 3, 13)
}

// P2, P9: behind one that is ended with a mark, any stream is told as if it stood alone; behind one with a fault, nothing is.
func TestStreamsOneBehindTheOther(t *testing.T) {
	texts := []string{"a\n", "--- &x [b]\n", "%TAG ! t\n--- !a b\n", "---\n", "- &x\n", "# r\n", "%YAML 1.2\n---\n|\n a\n\n", "  a:\n  - b\n", "!a b\n", "*x\n", "'a' b\n", "%YAML 1.2\na", "\ta\n", "- [*x", "... x\n", "'a'\nb\n"}
	for _, first := range texts {
		one := impl.Parse(first)
		last := len(one) - 1
		for _, second := range texts {
			s := first + "...\n" + second
			got, want := impl.Parse(s), slices.Clone(one)
			if one[last].Kind == impl.EvStreamEnd {
				want = append(want[:last], impl.Parse(second)[1:]...)
				// The mark belongs to a document, if there is one.
				want[last-1].Flag = last > 1
				if end := &want[len(want)-1]; end.Kind == impl.EvFault {
					end.At += len(first) + len("...\n")
				}
			}
			if !slices.Equal(got, want) {
				t.Errorf("Parse(%q) is\n\t%s, not\n\t%s", s, briefStream(got), briefStream(want))
			}
		}
	}
}

// P9: bytes of any breaks, with a mark of the encoding and without; faults have their places in the text that is made of them.
func TestParseBytes(t *testing.T) {
	for _, c := range []flowCase{
		{"", "+ ="}, {"a", "+ ( :a ) ="}, {"a: b\nc: d\n", "+ ( -{ :a :b :c :d / ) ="}, {"a: b\r\nc: d\r\n", "+ ( -{ :a :b :c :d / ) ="}, {"a: b\rc: d\r", "+ ( -{ :a :b :c :d / ) ="}, {"a\r\r\nb\n\rc", "+ ( :a~b~c ) ="}, {"---\r\n...\r---\n", "+ (--- : )... (--- : ) ="}, {"|\r\n a\r\n b\r c\n", "+ ( |a~b~c~ ) ="}, {"%YAML 1.2\r---\ra", "+ (--- :a ) ="}, {"\r", "+ ="}, {"\r\n\r\n", "+ ="}, {"a\r", "+ ( :a ) ="}, {"'a\r\n\r\nb'", "+ ( 'a~b ) ="},
		{"\xef\xbb\xbf", "+ ="}, {"\xef\xbb\xbfa", "+ ( :a ) ="}, {"\xef\xbb\xbf---\na", "+ (--- :a ) ="}, {"\xef\xbb\xbf%YAML 1.2\r\n---\r\n", "+ (--- : ) ="}, {"\xef\xbb\xbf- a\r- b", "+ ( -[ :a :b / ) ="},
		{"'a' b", "+ ( 'a !8@4"}, {"\xef\xbb\xbf'a' b", "+ ( 'a !8@4"}, {"'a'\r\n\r\nb", "+ ( 'a !9@5"}, {"\xef\xbb\xbf\r\n\ta", "+ ( !2@1"}, {"\r\n... \r\n'", "+ ( !3@7"}, {"%YAML 1.2\r\na", "+ !13@10"},
		// What Normal gives a code.
		{"\x00", "+ !1@0"}, {"a\x00", "+ !1@0"}, {"abc\xff", "+ !1@0"}, {"\xc3", "+ !1@0"}, {"\xed\xa0\x80", "+ !1@0"}, {"a\x7f", "+ !1@0"}, {"a\xef\xbb\xbf", "+ !1@0"}, {"\xef\xbb\xbf\xef\xbb\xbf", "+ !1@0"}, {"\xef\xbb", "+ !1@0"}, {"'a' b\x01", "+ !1@0"}, {"\u0085", "+ !1@0"}, {"\v", "+ !1@0"},
		{strings.Repeat("\r\n", 30000), "+ ="}, {strings.Repeat("\n", 60001), "+ !1@0"}, {strings.Repeat("\r\n", 30000) + "\n", "+ !1@0"}, {"\xef\xbb\xbf" + strings.Repeat("\n", 59997), "+ ="}, {"\xef\xbb\xbf" + strings.Repeat("\n", 59998), "+ !1@0"}, {strings.Repeat("a", 70000), "+ !1@0"},
	} {
		b := []byte(c.s)
		if got := briefStream(impl.ParseBytes(b)); got != c.want {
			t.Errorf("ParseBytes(%.60q) is\n\t%s, not\n\t%s", c.s, got, c.want)
		}
		if string(b) != c.s {
			t.Errorf("ParseBytes(%.60q) changes its bytes to %.60q", c.s, b)
		}
	}
	for _, b := range [][]byte{nil, {}} {
		if got := briefStream(impl.ParseBytes(b)); got != "+ =" {
			t.Errorf("ParseBytes of %#v is %s", b, got)
		}
	}
}

// P9: ParseBytes is Parse of what is made of the bytes, for many of them; and Parse tells where a text isn't clean.
func TestParseBytesOfManyTexts(t *testing.T) {
	m := runesByRule()
	faults := map[bool]int{}
	check := func(s string) {
		b := []byte(s)
		text, code := normalByRule(m, b)
		want := []impl.Event{{Kind: 1}, {Kind: 10, Code: 1}}
		if code == 0 {
			want = streamByRule(text)
		}
		if got := impl.ParseBytes(b); !slices.Equal(got, want) || string(b) != s {
			t.Fatalf("ParseBytes(%q) is\n\t%s, not\n\t%s", s, briefStream(got), briefStream(want))
		}
		want = []impl.Event{{Kind: 1}, {Kind: 10, Code: 1, At: cleanByRule(m, s)}}
		if want[1].At == len(s) {
			want = streamByRule(s)
		}
		if got := impl.Parse(s); !slices.Equal(got, want) {
			t.Fatalf("Parse(%q) is\n\t%s, not\n\t%s", s, briefStream(got), briefStream(want))
		}
		faults[code != 0]++
	}
	eachText([]string{"\r", "\n", "\xef\xbb\xbf", "a", "- ", "---", "'"}, 5, check)
	eachText([]string{"\xef", "\xbb", "\xbf", "\xc3\xa9", "\x00", "a:", "\r\n", "... "}, 4, check)
	if faults[true] < 1000 || faults[false] < 1000 {
		t.Errorf("with a code and without: %v", faults)
	}
}

// Chapter 1: an answer is new memory, hangs on the arguments alone, and is not changed by a later call.
func TestStreamsKeepNothing(t *testing.T) {
	texts := []string{"", "a", "--- &x a\n--- b\n", "*x", "%TAG !h! t\n--- !h!x a", "!h!x a", "%YAML 1.2\n---\n", "%YAML 1.2\n%YAML 1.2", "'a", "a\x00", strings.Repeat("---\n", 100), strings.Repeat("[", 50), "... x"}
	checkKeepsNothing(t, texts, func(s string) nodeTold { return nodeTold{events: impl.Parse(s)} })
	checkKeepsNothing(t, texts, func(s string) nodeTold { return nodeTold{events: impl.ParseBytes([]byte(s))} })
	for _, s := range texts {
		first := impl.ParseBytes([]byte(s))
		kept := briefStream(first)
		for _, other := range texts {
			b := []byte(other)
			later := impl.ParseBytes(b)
			for i := range b {
				b[i] = 'z'
			}
			for i := range later {
				later[i] = impl.Event{Kind: 77}
			}
		}
		if got := briefStream(first); got != kept {
			t.Errorf("the answer of %q is now %s, and was %s", s, got, kept)
		}
	}
	// The texts of the events aren't those of the bytes.
	b := []byte("--- &abc 'def'")
	told := impl.ParseBytes(b)
	for i := range b {
		b[i] = 'z'
	}
	if got := briefStream(told); got != "+ (--- &abc'def ) =" {
		t.Errorf("with other bytes the answer is %s", got)
	}
}

// Every call ends, in time, also for texts as long as they may be.
func TestGreatStreams(t *testing.T) {
	fill := func(ahead, piece, behind string) string {
		return ahead + strings.Repeat(piece, (impl.MaxText-len(ahead)-len(behind))/len(piece)) + behind
	}
	check := func(s string, per, more int, piece, code int) {
		t.Helper()
		l := impl.Parse(s)
		last := l[len(l)-1]
		if want := len(s)/piece*per + more; len(l) != want || last.Code != code || toldFault(s, l) != "" {
			t.Errorf("Parse of %q .. of %d bytes has %d events and the code %d, not %d and %d; %s", s[:8], len(s), len(l), last.Code, want, code, toldFault(s, l))
		}
	}
	check(fill("", "---\n", ""), 3, 2, 4, 0)
	check(fill("", "...\n", ""), 0, 2, 4, 0)
	check(fill("", "--- a\n", ""), 3, 2, 6, 0)
	check(fill("", "a\n...\n", ""), 3, 2, 6, 0)
	check(fill("", "- a\n", ""), 1, 6, 4, 0)
	check(fill("", "a: b\n", ""), 2, 6, 5, 0)
	check(fill("", "%YAML 1.2\n--- &x a\n...\n", ""), 3, 2, 23, 0)
	check(fill("", "# r\n", ""), 0, 2, 4, 0)
	check(fill("%YAML 1.2\n", "# r\n", ""), 0, 2, 4, 13)
	check(fill("%YAML ", " ", "1.2"), 0, 2, 1, 13)
	check(fill("%TAG ", "x ", ""), 0, 2, 1, 13)
	check(fill("'", "a\n", ""), 0, 3, 1, 3)
	check(fill("", "-\n", ""), 1, 6, 2, 0)
	check(fill("", "[", ""), 0, 43, 1, 12)
	check(fill("", "- ", ""), 0, 43, 1, 12)
	check(fill("a\n", "\n", "\tb: c"), 0, 4, 1, 8)
	check(fill("'a'\n", "\n", "\tb"), 0, 4, 1, 2)
	var many strings.Builder
	count := 0
	for many.Len() < 59900 {
		fmt.Fprintf(&many, "%%TAG !%x! t\n", count)
		count++
	}
	check(many.String()+"---\n", 0, 5, 1, 0)
	check(many.String()+"%TAG !0! t\n---\n", 0, 2, 1, 13)
	check(fmt.Sprintf("%s--- !%x!x a\n", many.String(), count-1), 0, 5, 1, 0)
}
