package tests

import (
	"regexp"
	"slices"
	"strings"
	"testing"

	"loop.example/g00666/impl"
)

var (
	nameRule     = regexp.MustCompile(`^[&*]([^ \t\n,\[\]{}]+)`)
	tagPlainRule = regexp.MustCompile(`^![^ \t\n,\[\]{}]*`)
	tagQuoteRule = regexp.MustCompile(`^!<[^ \t\n>]+>`)
	handleRule   = regexp.MustCompile(`^(?:!|!!|![a-zA-Z0-9-]+!)$`)
	prefixRule   = regexp.MustCompile(`^[!-~]+$`)
	readRule     = regexp.MustCompile(`^(.*!)([^!]+)$`)
)

// wordAt is what NameAt and TagAt answer.
type wordAt struct {
	text string
	end  int
	ok   bool
}

func nameAt(s string, p int) wordAt {
	text, end, ok := impl.NameAt(s, p)
	return wordAt{text, end, ok}
}

func tagAt(s string, p int) wordAt {
	text, end, ok := impl.TagAt(s, p)
	return wordAt{text, end, ok}
}

func nameByPattern(s string, p int) wordAt {
	p = placeByRule(s, p)
	m := nameRule.FindStringSubmatch(s[p:])
	if m == nil || len(m[1]) > 60 {
		return wordAt{}
	}
	return wordAt{m[1], p + len(m[0]), true}
}

func tagByPattern(s string, p int) wordAt {
	p = placeByRule(s, p)
	text := tagQuoteRule.FindString(s[p:])
	if text == "" {
		text = tagPlainRule.FindString(s[p:])
	}
	if text == "" || len(text) > 60 {
		return wordAt{}
	}
	return wordAt{text, p + len(text), true}
}

func handleByPattern(h impl.Handle) bool {
	return handleRule.MatchString(h.Name) && len(h.Name) <= 60 && prefixRule.MatchString(h.Prefix) && len(h.Prefix) <= 60
}

// readByPattern tells the tag of a text by a list that is gone through, without a map.
func readByPattern(raw string, l []impl.Handle) (string, bool) {
	switch {
	case raw == "!":
		return "!", true
	case len(raw) >= 4 && raw[:2] == "!<" && raw[len(raw)-1] == '>':
		return raw[2 : len(raw)-1], true
	}
	m := readRule.FindStringSubmatch(strings.ReplaceAll(raw, "\n", "\v"))
	if m == nil || !handleRule.MatchString(m[1]) || len(m[1]) > 60 {
		return "", false
	}
	rest := raw[len(m[1]):]
	for _, h := range l {
		if h.Name == m[1] && h.Prefix == "" {
			return "", false
		}
		if h.Name == m[1] {
			return h.Prefix + rest, true
		}
	}
	switch m[1] {
	case "!!":
		return "tag:yaml.org,2002:" + rest, true
	case "!":
		return "!" + rest, true
	}
	return "", false
}

// handleLists: lists of handles, right and wrong ones, with names once, twice and not at all.
func handleLists() [][]impl.Handle {
	return [][]impl.Handle{
		nil,
		{},
		{{Name: "!a!", Prefix: "p:"}},
		{{Name: "!a!", Prefix: "p:"}, {Name: "!a!", Prefix: "q:"}},
		{{Name: "!b!", Prefix: "b:"}, {Name: "!a!", Prefix: "q:"}, {Name: "!", Prefix: "l:"}, {Name: "!a!", Prefix: "p:"}},
		{{Name: "!!", Prefix: "core:"}, {Name: "!", Prefix: "!l-"}},
		{{Name: "!", Prefix: "l:"}, {Name: "!", Prefix: "m:"}, {Name: "!!", Prefix: "c:"}, {Name: "!!", Prefix: "d:"}},
		{{Name: "!a_!", Prefix: "w:"}, {Name: "", Prefix: "e:"}, {Name: "a", Prefix: "n:"}, {Name: "!!!", Prefix: "t:"}, {Name: "!a", Prefix: "o:"}, {Name: "!<!", Prefix: "s:"}},
		{{Name: "!a!a!", Prefix: "f:"}, {Name: "!a!!", Prefix: "g:"}, {Name: "!!a!", Prefix: "h:"}},
		{{}, {Name: "!a!"}, {Name: "!a!", Prefix: "p:"}, {Name: "!!"}, {Name: "!", Prefix: "\x00 \xff"}},
		{{Name: "!"}, {Name: "!!"}, {Name: "!a!"}, {Name: "!!", Prefix: "c:"}, {Name: "!", Prefix: "l:"}, {Name: "!a!", Prefix: "p:"}},
		{{Name: "!", Prefix: "l:"}, {Name: "!!", Prefix: "c:"}, {Name: "!a!", Prefix: "p:"}, {Name: "!a!"}, {Name: "!!"}, {Name: "!"}},
	}
}

func TestNameConstants(t *testing.T) {
	if impl.MaxName != 60 || impl.CoreTag != "tag:yaml.org,2002:" {
		t.Error("MaxName and CoreTag", impl.MaxName, impl.CoreTag)
	}
}

// P9: names and tags are as the patterns have them, at every place of many texts and outside of them.
func TestNamesAndTagsOfManyTexts(t *testing.T) {
	ask := func(s string) {
		for p := -1; p <= len(s)+1; p++ {
			if got, want := nameAt(s, p), nameByPattern(s, p); got != want {
				t.Fatalf("NameAt(%q, %d) = %#v, not %#v", s, p, got, want)
			}
			if got, want := tagAt(s, p), tagByPattern(s, p); got != want {
				t.Fatalf("TagAt(%q, %d) = %#v, not %#v", s, p, got, want)
			}
		}
	}
	eachText([]string{"!", "<", ">", "a", ",", " "}, 6, ask)
	eachText([]string{"&", "*", "!", "<", ">", ",", "[", "]", "{", "}", " ", "\t", "\n", "\r", "\x00", "\xff", "é"}, 3, ask)
	eachText([]string{"!<", "&", "*", strings.Repeat("b", 29), strings.Repeat("c", 30), ">", "é", "]"}, 4, ask)
}

// P9: every byte alone ends a stretch or is part of it.
func TestEveryByteInAStretch(t *testing.T) {
	for b := range 256 {
		s := "a" + string([]byte{byte(b)}) + "z"
		end := strings.IndexByte(" \t\n,[]{}", byte(b)) >= 0
		for _, sign := range []string{"&", "*"} {
			want := wordAt{s, 4, true}
			if end {
				want = wordAt{"a", 2, true}
			}
			if got := nameAt(sign+s, 0); got != want {
				t.Errorf("NameAt(%q, 0) = %#v, not %#v", sign+s, got, want)
			}
		}
		want := wordAt{"!" + s, 4, true}
		if end {
			want = wordAt{"!a", 2, true}
		}
		if got := tagAt("!"+s, 0); got != want {
			t.Errorf("TagAt(%q, 0) = %#v, not %#v", "!"+s, got, want)
		}
		alone := string([]byte{byte(b)}) + "a"
		if got, want := nameAt(alone, 0).ok, b == '&' || b == '*'; got != want {
			t.Errorf("NameAt(%q, 0) says %v", alone, got)
		}
		if got, want := tagAt(alone, 0).ok, b == '!'; got != want {
			t.Errorf("TagAt(%q, 0) says %v", alone, got)
		}
	}
}

func TestNameEdges(t *testing.T) {
	long := strings.Repeat("n", 60)
	for _, c := range []struct {
		s    string
		p    int
		want wordAt
	}{
		{"", 0, wordAt{}}, {"", -1, wordAt{}}, {"", highest, wordAt{}},
		{"&a", 0, wordAt{"a", 2, true}}, {"*a", 0, wordAt{"a", 2, true}}, {"&a b", 0, wordAt{"a", 2, true}},
		{"&a", -1, wordAt{"a", 2, true}}, {"*a", lowest, wordAt{"a", 2, true}}, {"&a", 1, wordAt{}}, {"&a", 2, wordAt{}}, {"&a", highest, wordAt{}},
		{"x &a,", 2, wordAt{"a", 4, true}}, {"x &a,", 0, wordAt{}}, {"x &", 2, wordAt{}}, {"x *", highest, wordAt{}},
		{"&", 0, wordAt{}}, {"*", 0, wordAt{}}, {"& a", 0, wordAt{}}, {"*\ta", 0, wordAt{}}, {"&\na", 0, wordAt{}},
		{"&,a", 0, wordAt{}}, {"*[a", 0, wordAt{}}, {"&]a", 0, wordAt{}}, {"*{a", 0, wordAt{}}, {"&}a", 0, wordAt{}},
		{"&a,b", 0, wordAt{"a", 2, true}}, {"&a[b", 0, wordAt{"a", 2, true}}, {"*a]b", 0, wordAt{"a", 2, true}}, {"&a{b", 0, wordAt{"a", 2, true}}, {"*a}b", 0, wordAt{"a", 2, true}},
		{"&a\tb", 0, wordAt{"a", 2, true}}, {"*a\nb", 0, wordAt{"a", 2, true}},
		{"&&", 0, wordAt{"&", 2, true}}, {"&*", 0, wordAt{"*", 2, true}}, {"*&a", 1, wordAt{"a", 3, true}}, {"&a:", 0, wordAt{"a:", 3, true}}, {"&a#b\"'", 0, wordAt{"a#b\"'", 6, true}},
		{"&\xff\x00\r", 0, wordAt{"\xff\x00\r", 4, true}}, {"&é", 0, wordAt{"é", 3, true}}, {"&\u00a0", 0, wordAt{"\u00a0", 3, true}},
		{"!a", 0, wordAt{}}, {"a", 0, wordAt{}}, {" &a", 0, wordAt{}},
		{"&" + long, 0, wordAt{long, 61, true}}, {"*" + long + "]", 0, wordAt{long, 61, true}},
		{"&" + long + "n", 0, wordAt{}}, {"*" + long + "n ", 0, wordAt{}},
		{"&" + strings.Repeat("é", 30), 0, wordAt{strings.Repeat("é", 30), 61, true}}, {"&" + strings.Repeat("é", 30) + "n", 0, wordAt{}},
	} {
		if got := nameAt(c.s, c.p); got != c.want {
			t.Errorf("NameAt(%q, %d) = %#v, not %#v", c.s, c.p, got, c.want)
		}
	}
}

func TestTagEdges(t *testing.T) {
	long := strings.Repeat("t", 57)
	for _, c := range []struct {
		s    string
		p    int
		want wordAt
	}{
		{"", 0, wordAt{}}, {"a", 0, wordAt{}}, {"<a>", 0, wordAt{}}, {"&a", 0, wordAt{}}, {" !", 0, wordAt{}},
		{"!", 0, wordAt{"!", 1, true}}, {"!", -1, wordAt{"!", 1, true}}, {"!", lowest, wordAt{"!", 1, true}}, {"!", 1, wordAt{}}, {"!", highest, wordAt{}},
		{"! a", 0, wordAt{"!", 1, true}}, {"!\t", 0, wordAt{"!", 1, true}}, {"!\n", 0, wordAt{"!", 1, true}},
		{"!,", 0, wordAt{"!", 1, true}}, {"![", 0, wordAt{"!", 1, true}}, {"!]", 0, wordAt{"!", 1, true}}, {"!{", 0, wordAt{"!", 1, true}}, {"!}", 0, wordAt{"!", 1, true}},
		{"!a!b c", 0, wordAt{"!a!b", 4, true}}, {"!!str", 0, wordAt{"!!str", 5, true}}, {"!!str", 1, wordAt{"!str", 5, true}}, {"a !", 2, wordAt{"!", 3, true}},
		{"!<a>", 0, wordAt{"!<a>", 4, true}}, {"!<a>b", 0, wordAt{"!<a>", 4, true}}, {"!<a>>", 0, wordAt{"!<a>", 4, true}}, {"x!<a> ", 1, wordAt{"!<a>", 5, true}},
		{"!<,[]{}> x", 0, wordAt{"!<,[]{}>", 8, true}}, {"!<<>", 0, wordAt{"!<<>", 4, true}}, {"!<!>", 0, wordAt{"!<!>", 4, true}},
		{"!<", 0, wordAt{"!<", 2, true}}, {"!<a", 0, wordAt{"!<a", 3, true}}, {"!<a,b", 0, wordAt{"!<a", 3, true}}, {"!<,>", 0, wordAt{"!<,>", 4, true}},
		{"!< >", 0, wordAt{"!<", 2, true}}, {"!<a b>", 0, wordAt{"!<a", 3, true}}, {"!<a\t>", 0, wordAt{"!<a", 3, true}}, {"!<a\n>", 0, wordAt{"!<a", 3, true}}, {"!<a,b >", 0, wordAt{"!<a", 3, true}},
		{"!<>", 0, wordAt{"!<>", 3, true}}, {"!<>a", 0, wordAt{"!<>a", 4, true}}, {"!<>>", 0, wordAt{"!<>>", 4, true}}, {"!<>,>", 0, wordAt{"!<>", 3, true}},
		{"! <a>", 0, wordAt{"!", 1, true}}, {"!a<b,c>", 0, wordAt{"!a<b", 4, true}}, {"!!<a,b>", 0, wordAt{"!!<a", 4, true}},
		{"!\xff\x00\r>", 0, wordAt{"!\xff\x00\r>", 5, true}}, {"!<\xff\x00\r>", 0, wordAt{"!<\xff\x00\r>", 6, true}}, {"!é\u00a0", 0, wordAt{"!é\u00a0", 5, true}},
		{"!<" + long + ">", 0, wordAt{"!<" + long + ">", 60, true}}, {"!<" + long + "t>", 0, wordAt{}},
		{"!" + long + "tt", 0, wordAt{"!" + long + "tt", 60, true}}, {"!" + long + "ttt", 0, wordAt{}}, {"!" + long + "tt,", 0, wordAt{"!" + long + "tt", 60, true}},
		// What is too long between < and > isn't taken as a stretch in its place.
		{"!<a," + long + ">", 0, wordAt{}}, {"!<a," + long + " >", 0, wordAt{"!<a", 3, true}},
		{"!<" + long + "tt", 0, wordAt{}}, {"!<" + long + "t", 0, wordAt{"!<" + long + "t", 60, true}},
	} {
		if got := tagAt(c.s, c.p); got != c.want {
			t.Errorf("TagAt(%q, %d) = %#v, not %#v", c.s, c.p, got, c.want)
		}
	}
}

func TestHandleEdges(t *testing.T) {
	letters := func(n int) string { return strings.Repeat("h", n) }
	for _, c := range []struct {
		name string
		want bool
	}{
		{"!", true}, {"!!", true}, {"!a!", true}, {"!Z!", true}, {"!z!", true}, {"!A!", true}, {"!0!", true}, {"!9!", true}, {"!-!", true}, {"!a-1!", true}, {"!--!", true}, {"!AZaz09-!", true},
		{"", false}, {"a", false}, {"a!", false}, {"!a", false}, {"!!a", false}, {"!!!", false}, {"!!!!", false}, {"!a!!", false}, {"!!a!", false}, {"!a!b!", false}, {"!a!b", false}, {"a!b!", false},
		{"!_!", false}, {"!a_!", false}, {"!_a!", false}, {"!a.!", false}, {"!a !", false}, {" !a!", false}, {"!a! ", false}, {"! !", false}, {"!a\n!", false}, {"!a!\n", false}, {"!é!", false}, {"!\xff!", false}, {"!\x00!", false}, {"!\r!", false},
		{"!@!", false}, {"![!", false}, {"!`!", false}, {"!{!", false}, {"!/!", false}, {"!:!", false}, {"!,!", false}, {"!+!", false},
		{"!" + letters(58) + "!", true}, {"!" + letters(59) + "!", false}, {"!" + letters(59), false}, {"!" + letters(600) + "!", false},
	} {
		if got := impl.HandleOk(impl.Handle{Name: c.name, Prefix: "x"}); got != c.want {
			t.Errorf("HandleOk of the name %q = %v", c.name, got)
		}
		if impl.HandleOk(impl.Handle{Name: c.name}) || impl.HandleOk(impl.Handle{Name: c.name, Prefix: " "}) {
			t.Errorf("HandleOk of the name %q and a wrong prefix", c.name)
		}
	}
	for _, c := range []struct {
		prefix string
		want   bool
	}{
		{"", false}, {"!", true}, {"~", true}, {" ", false}, {"\x7f", false}, {"!~", true}, {"a b", false}, {"a ", false}, {" a", false}, {"a\x7f", false}, {"a\n", false}, {"\na", false}, {"a\tb", false},
		{"a\x00", false}, {"a\r", false}, {"\xff", false}, {"é", false}, {"tag:yaml.org,2002:", true}, {",[]{}<>&*#", true},
		{letters(60), true}, {letters(61), false}, {letters(59) + " ", false},
	} {
		for _, name := range []string{"!", "!!", "!a!"} {
			if got := impl.HandleOk(impl.Handle{Name: name, Prefix: c.prefix}); got != c.want {
				t.Errorf("HandleOk of %q and the prefix %q = %v", name, c.prefix, got)
			}
		}
	}
	if impl.HandleOk(impl.Handle{}) {
		t.Error("HandleOk of nothing")
	}
}

// P9: every byte alone may stand in a name and in a prefix, or not.
func TestHandlesByPattern(t *testing.T) {
	for b := range 256 {
		x := string([]byte{byte(b)})
		for _, h := range []impl.Handle{{Name: "!" + x + "!", Prefix: "p"}, {Name: "!a" + x + "b!", Prefix: "p"}, {Name: "!a!", Prefix: x}, {Name: "!", Prefix: "a" + x}, {Name: x, Prefix: "p"}, {Name: "!" + x, Prefix: "p"}} {
			if got, want := impl.HandleOk(h), handleByPattern(h); got != want {
				t.Errorf("HandleOk(%q) = %v", h, got)
			}
		}
	}
	eachText([]string{"!", "a", "Z", "0", "-", "_", " ", "\n"}, 5, func(s string) {
		for _, h := range []impl.Handle{{Name: s, Prefix: "p"}, {Name: "!a!", Prefix: s}} {
			if got, want := impl.HandleOk(h), handleByPattern(h); got != want {
				t.Fatalf("HandleOk(%q) = %v", h, got)
			}
		}
	})
}

func TestTagReadEdges(t *testing.T) {
	long := "!" + strings.Repeat("h", 58) + "!"
	longer := "!" + strings.Repeat("h", 59) + "!"
	l := []impl.Handle{{Name: "!a!", Prefix: "p:"}, {Name: "!b!", Prefix: "b:"}, {Name: "!a!", Prefix: "q:"}, {Name: long, Prefix: "long:"}, {Name: longer, Prefix: "longer:"}, {Name: "!w_!", Prefix: "w:"}}
	short := []impl.Handle{{Name: "!", Prefix: "l:"}, {Name: "!!", Prefix: "c:"}, {Name: "!", Prefix: "m:"}, {Name: "!!", Prefix: "d:"}}
	for _, c := range []struct {
		raw  string
		l    []impl.Handle
		want string
		ok   bool
	}{
		{"", nil, "", false}, {"a", nil, "", false}, {"a!b", l, "", false}, {"<a>", l, "", false}, {" !a", l, "", false}, {"a!a!b", l, "", false},
		{"!", nil, "!", true}, {"!", []impl.Handle{}, "!", true}, {"!", short, "!", true},
		{"!<u>", nil, "u", true}, {"!<u>", l, "u", true}, {"!<!>", nil, "!", true}, {"!<!a!b>", l, "!a!b", true}, {"!<a,[b]>", nil, "a,[b]", true}, {"!<<>", nil, "<", true}, {"!<\xff\x00\r>", nil, "\xff\x00\r", true},
		{"!<>", nil, "!<>", true}, {"!<>", short, "l:<>", true}, {"!<", nil, "!<", true}, {"!<a", nil, "!<a", true}, {"!<a>b", nil, "!<a>b", true}, {"!<>a", nil, "!<>a", true}, {"!a>", nil, "!a>", true}, {"!!<u>", nil, "tag:yaml.org,2002:<u>", true}, {"!<!a", nil, "", false},
		{"!x", nil, "!x", true}, {"!x", []impl.Handle{}, "!x", true}, {"!x", l, "!x", true}, {"!x", short, "l:x", true},
		{"!!x", nil, "tag:yaml.org,2002:x", true}, {"!!x", []impl.Handle{}, "tag:yaml.org,2002:x", true}, {"!!x", l, "tag:yaml.org,2002:x", true}, {"!!x", short, "c:x", true},
		{"!a!x", l, "p:x", true}, {"!b!x", l, "b:x", true}, {"!c!x", l, "", false}, {"!a!x", nil, "", false}, {"!a!x", short, "", false}, {"!A!x", l, "", false},
		{"!!", nil, "", false}, {"!!", short, "", false}, {"!a!", l, "", false}, {"!a!", nil, "", false}, {"!!!", l, "", false}, {"!!!x", l, "", false}, {"!a!!x", l, "", false}, {"!a!b!x", l, "", false}, {"!a!b!", l, "", false},
		{"!a", l, "!a", true}, {"!w_!x", l, "", false}, {"! !x", nil, "", false}, {"!\xff!x", nil, "", false},
		{long + "x", l, "long:x", true}, {longer + "x", l, "", false}, {long + "x", nil, "", false},
		{"!\xff\x00\r", nil, "!\xff\x00\r", true}, {"!a!\xff\x00\r", l, "p:\xff\x00\r", true}, {"!a! x\n", l, "p: x\n", true}, {"!a!é", l, "p:é", true}, {"!!-", l, "tag:yaml.org,2002:-", true},
		{"!a!" + strings.Repeat("x", 900), l, "p:" + strings.Repeat("x", 900), true},
		{"!x", []impl.Handle{{Name: "!", Prefix: " \x7f"}}, " \x7fx", true}, {"!x", []impl.Handle{{}, {Name: "x", Prefix: "n:"}}, "!x", true},
	} {
		if got, ok := impl.TagRead(c.raw, c.l); got != c.want || ok != c.ok {
			t.Errorf("TagRead(%q, %q) = %q, %v, not %q, %v", c.raw, c.l, got, ok, c.want, c.ok)
		}
	}
}

// P9: the first handle of a name counts: where it has no prefix there is no tag, whatever stands behind it in the list.
func TestTagReadWithoutAPrefix(t *testing.T) {
	for _, name := range []string{"!", "!!", "!h!", "!" + strings.Repeat("h", 58) + "!"} {
		without, with := impl.Handle{Name: name}, impl.Handle{Name: name, Prefix: "p:"}
		for _, rest := range []string{"x", "str", "é", "\xff\x00"} {
			for _, l := range [][]impl.Handle{{without}, {without, with}, {without, without, with}, {{Name: "!other!", Prefix: "o:"}, without, with}, {{Prefix: "e:"}, without}} {
				if got, ok := impl.TagRead(name+rest, l); got != "" || ok {
					t.Errorf("TagRead(%q, %q) = %q, %v", name+rest, l, got, ok)
				}
			}
			for _, l := range [][]impl.Handle{{with}, {with, without}, {{Name: "!other!"}, with, without}, {{}, with}} {
				if got, ok := impl.TagRead(name+rest, l); got != "p:"+rest || !ok {
					t.Errorf("TagRead(%q, %q) = %q, %v", name+rest, l, got, ok)
				}
			}
		}
	}
	short := []impl.Handle{{Name: "!"}, {Name: "!!"}}
	for raw, want := range map[string]string{"!": "!", "!<u>": "u", "!<!a>": "!a"} {
		if got, ok := impl.TagRead(raw, short); got != want || !ok {
			t.Errorf("TagRead(%q, %q) = %q, %v", raw, short, got, ok)
		}
	}
}

// P9: what a text stands for is found by going through the list as well; the list stays as it was.
func TestTagReadByPattern(t *testing.T) {
	lists, kept := handleLists(), handleLists()
	ask := func(raw string) {
		for i, l := range lists {
			got, ok := impl.TagRead(raw, l)
			if want, wantOk := readByPattern(raw, l); got != want || ok != wantOk {
				t.Fatalf("TagRead(%q, %q) = %q, %v, not %q, %v", raw, l, got, ok, want, wantOk)
			}
			if !slices.Equal(l, kept[i]) {
				t.Fatalf("TagRead(%q) changed its list: %q", raw, l)
			}
		}
	}
	eachText([]string{"!", "a", "<", ">", "_"}, 5, ask)
	eachText([]string{"!", "a", "b!", "-", " ", "\n", "\x00", "\xff", ","}, 3, ask)
	eachText([]string{"!", strings.Repeat("b", 29), strings.Repeat("c", 30), "a"}, 4, ask)
}

// P5: a tag that is written by a handle and a rest, or between < and >, is read as it was written.
func TestTagsAreReadAsWritten(t *testing.T) {
	rests := []string{"s", "str", "a:b", "<a>", "-", "é", "a/b#c", strings.Repeat("r", 50)}
	behind := []string{"", " ", "\t", "\n", ",", "[", "]", "{", "}", " !b!x", "\n!c"}
	read := func(s string, p int, raw, want string, l []impl.Handle) {
		at := tagAt(s, p)
		if at != (wordAt{raw, p + len(raw), true}) {
			t.Fatalf("TagAt(%q, %d) = %#v, not %q", s, p, at, raw)
		}
		if got, ok := impl.TagRead(at.text, l); got != want || !ok {
			t.Fatalf("TagRead(%q, %q) = %q, %v, not %q", at.text, l, got, ok, want)
		}
	}
	for _, l := range handleLists()[2:7] {
		for _, h := range l {
			if h != l[slices.IndexFunc(l, func(x impl.Handle) bool { return x.Name == h.Name })] {
				continue
			}
			for _, rest := range rests {
				if h.Name == "!" && rest == "<a>" {
					continue
				}
				for _, b := range behind {
					read("- "+h.Name+rest+b, 2, h.Name+rest, h.Prefix+rest, l)
				}
			}
		}
		for _, tag := range append(rests[:7:7], "!", "!a!b", "[,]", "{}", "<") {
			if strings.Contains(tag, ">") {
				continue
			}
			for _, b := range append(behind, ">", "a") {
				read("- !<"+tag+">"+b, 2, "!<"+tag+">", tag, l)
			}
		}
	}
	for _, rest := range rests {
		read("!!"+rest, 0, "!!"+rest, impl.CoreTag+rest, nil)
	}
}

// P9: great arguments are answered in time, and as small ones are.
func TestGreatNamesAndTags(t *testing.T) {
	great := strings.Repeat("a", 1000000)
	for _, s := range []string{"&" + great, "*" + great, "!" + great, "!<" + great, "!<" + great + ">"} {
		if n, g := nameAt(s, 0), tagAt(s, 0); n != (wordAt{}) || g != (wordAt{}) {
			t.Errorf("%q .. is read: %#v, %#v", s[:3], n, g)
		}
	}
	var l []impl.Handle
	for i := range 100000 {
		l = append(l, impl.Handle{Name: "!" + impl.NumText(i) + "!", Prefix: impl.NumText(i) + ":"})
	}
	for _, c := range []struct{ raw, want string }{{"!0!x", "0:x"}, {"!99999!x", "99999:x"}, {"!100000!x", ""}, {"!5!" + great, "5:" + great}, {"!x", "!x"}, {"!<" + great + ">", great}} {
		if got, ok := impl.TagRead(c.raw, l); got != c.want || ok != (c.want != "") {
			t.Errorf("TagRead(%.20q ..) = %.20q .., %v", c.raw, got, ok)
		}
	}
	if impl.HandleOk(impl.Handle{Name: "!" + great + "!", Prefix: "p"}) || impl.HandleOk(impl.Handle{Name: "!", Prefix: great}) {
		t.Error("HandleOk of what is too great")
	}
}
