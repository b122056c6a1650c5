package tests

import (
	"regexp"
	"strings"
	"testing"

	"loop.example/g00666/impl"
)

// lineOf is a line as a cut of the whole text at its breaks tells it.
type lineOf struct {
	from, to int
	text     string
}

// lineByRule tells the line in which the place p of s is.
func lineByRule(s string, p int) lineOf {
	from := 0
	for _, text := range strings.Split(s, "\n") {
		to := from + len(text)
		if p <= to {
			return lineOf{from, to, text}
		}
		from = to + 1
	}
	panic("no line has the place")
}

// placeByRule brings a place into a text.
func placeByRule(s string, p int) int {
	if p < 0 {
		return 0
	}
	if p > len(s) {
		return len(s)
	}
	return p
}

var (
	markRule  = regexp.MustCompile(`^(?:(---)|(\.\.\.))(?:[ \t\n]|\z)`)
	whiteRule = regexp.MustCompile(`^[ \t]*`)
	blankRule = regexp.MustCompile(`^ *`)
	loneRule  = regexp.MustCompile(`^[ \t]*$`)
	// What is left of a line: nothing, or a remark, which needs white where it isn't the line's beginning.
	restRule      = regexp.MustCompile(`^(?:[ \t]*|[ \t]+#[^\n]*)(?:\n|\z)`)
	restFirstRule = regexp.MustCompile(`^[ \t]*(?:#[^\n]*)?(?:\n|\z)`)
	// A gap behind a line's beginning or white, and one behind any other byte.
	gapFreeRule  = regexp.MustCompile(`^(?:#[^\n]*)?(?:[ \t\n]+(?:#[^\n]*)?)*`)
	gapBoundRule = regexp.MustCompile(`^(?:[ \t\n]+(?:#[^\n]*)?)*`)
)

func markByRule(s string, p int) int {
	m := markRule.FindStringSubmatch(s[p:])
	switch {
	case m == nil || lineByRule(s, p).from != p:
		return 0
	case m[1] != "":
		return 1
	}
	return 2
}

func whiteByRule(s string, p int) int {
	return p + len(whiteRule.FindString(s[p:]))
}

func restByRule(s string, p int) (int, bool) {
	rule := restRule
	if lineByRule(s, p).from == p {
		rule = restFirstRule
	}
	if rule.MatchString(s[p:]) {
		return lineByRule(s, p).to, true
	}
	return whiteByRule(s, p), false
}

func gapByRule(s string, p int) int {
	if p == 0 || strings.ContainsAny(s[p-1:p], " \t\n") {
		return p + len(gapFreeRule.FindString(s[p:]))
	}
	return p + len(gapBoundRule.FindString(s[p:]))
}

// lineAnswers are what the functions of the chapter say of one place.
type lineAnswers struct {
	line, col, end, indent, mark, white, rest int
	restOk                                    bool
	gap                                       int
	lone                                      bool
}

func answersOf(s string, p int) lineAnswers {
	var a lineAnswers
	a.line, a.col, a.end, a.indent = impl.LineAt(s, p), impl.Col(s, p), impl.EndAt(s, p), impl.IndentAt(s, p)
	a.mark, a.white, a.gap, a.lone = impl.MarkAt(s, p), impl.White(s, p), impl.Gap(s, p), impl.Lone(s, p)
	a.rest, a.restOk = impl.Rest(s, p)
	return a
}

func answersByRule(s string, p int) lineAnswers {
	p = placeByRule(s, p)
	l := lineByRule(s, p)
	a := lineAnswers{line: l.from, col: p - l.from, end: l.to}
	a.indent = len(blankRule.FindString(l.text))
	a.lone = loneRule.MatchString(l.text)
	a.mark, a.white, a.gap = markByRule(s, p), whiteByRule(s, p), gapByRule(s, p)
	a.rest, a.restOk = restByRule(s, p)
	return a
}

// P9: every function answers by its rule, at every place of many texts and outside of them.
func TestLinesOfManyTexts(t *testing.T) {
	check := func(s string) {
		for p := -2; p <= len(s)+2; p++ {
			if got, want := answersOf(s, p), answersByRule(s, p); got != want {
				t.Fatalf("%q at %d: %+v, not %+v", s, p, got, want)
			}
		}
		for _, p := range []int{lowest, lowest + 1, highest - 1, highest} {
			if got, want := answersOf(s, p), answersByRule(s, p); got != want {
				t.Fatalf("%q at %d: %+v, not %+v", s, p, got, want)
			}
		}
	}
	eachText([]string{" ", "\t", "\n", "#", "a"}, 6, check)
	eachText([]string{" ", "\t", "\n", "#", "a", "-", ".", "---", "..."}, 4, check)
	eachText([]string{" ", "\n", "#", "---", "...", "\r", "\x00", "\xff", "\xc3", "é", "\u00a0", "\u0085", "\x0b"}, 3, check)
}

// P6: a place is between the ends of its line, and the line is the same from each of its places.
func TestPlaceIsBetweenTheEndsOfItsLine(t *testing.T) {
	eachText([]string{" ", "\t", "\n", "#", "a", "\r"}, 6, func(s string) {
		for p := 0; p <= len(s); p++ {
			from, to := impl.LineAt(s, p), impl.EndAt(s, p)
			if from < 0 || from > p || to < p || to > len(s) {
				t.Fatalf("%q at %d: the line from %d to %d", s, p, from, to)
			}
			if strings.Contains(s[from:to], "\n") || from > 0 && s[from-1] != '\n' || to < len(s) && s[to] != '\n' {
				t.Fatalf("%q at %d: from %d to %d isn't one whole line", s, p, from, to)
			}
			for q := from; q <= to; q++ {
				if impl.LineAt(s, q) != from || impl.EndAt(s, q) != to || impl.Col(s, q) != q-from {
					t.Fatalf("%q: %d and %d are in one line, but it is told otherwise", s, p, q)
				}
				if impl.IndentAt(s, q) != impl.IndentAt(s, from) || impl.Lone(s, q) != impl.Lone(s, from) {
					t.Fatalf("%q: %d and %d are in one line, but its beginning is told otherwise", s, p, q)
				}
			}
		}
	})
}

// P6: lines one behind the other are the whole text.
func TestLinesMakeTheText(t *testing.T) {
	eachText([]string{" ", "\n", "#", "a", "---"}, 6, func(s string) {
		var lines []string
		for p := 0; ; {
			end := impl.EndAt(s, p)
			lines = append(lines, s[impl.LineAt(s, p):end])
			if end == len(s) {
				break
			}
			p = end + 1
		}
		if got := strings.Join(lines, "\n"); got != s || len(lines) != strings.Count(s, "\n")+1 {
			t.Fatalf("%q has the lines %q", s, lines)
		}
	})
}

// P6: a gap is over where it is over: no gap begins where one ends, and it ends there
// too where it is begun behind its white, or at the end of a line that it goes over.
func TestGapIsOverWhereItIsOver(t *testing.T) {
	eachText([]string{" ", "\t", "\n", "#", "a", "-"}, 6, func(s string) {
		for p := 0; p <= len(s); p++ {
			q := impl.Gap(s, p)
			if q < p || q > len(s) {
				t.Fatalf("Gap(%q, %d) = %d", s, p, q)
			}
			if again := impl.Gap(s, q); again != q {
				t.Fatalf("Gap(%q, %d) = %d, but from there it goes on to %d", s, p, q, again)
			}
			if q < len(s) && strings.IndexByte(" \t\n", s[q]) >= 0 {
				t.Fatalf("Gap(%q, %d) = %d, which is a gap", s, p, q)
			}
			if w := impl.White(s, p); impl.White(s, w) != w || impl.Gap(s, w) != q {
				t.Fatalf("%q at %d: White is %d, and from there White and Gap are %d and %d, not %d and %d", s, p, w, impl.White(s, w), impl.Gap(s, w), w, q)
			}
			if end, ok := impl.Rest(s, p); ok && impl.Gap(s, end) != q {
				t.Fatalf("%q at %d: the line ends at %d, but the gap is over at %d, not %d", s, p, end, impl.Gap(s, end), q)
			}
		}
	})
}

// P9: the edges of lines by hand, so that a slip in the rules above would show.
func TestLineEdges(t *testing.T) {
	const s = "ab\n  c\n\n\td\n \te\n"
	for _, c := range []struct{ p, line, col, end, indent int }{
		{lowest, 0, 0, 2, 0}, {-1, 0, 0, 2, 0}, {0, 0, 0, 2, 0}, {1, 0, 1, 2, 0},
		{2, 0, 2, 2, 0}, // at a break: still the line that it ends
		{3, 3, 0, 6, 2}, // right behind it
		{4, 3, 1, 6, 2}, {5, 3, 2, 6, 2}, {6, 3, 3, 6, 2},
		{7, 7, 0, 7, 0}, // a line without bytes
		{8, 8, 0, 10, 0}, {9, 8, 1, 10, 0}, {10, 8, 2, 10, 0},
		{11, 11, 0, 14, 1}, {13, 11, 2, 14, 1}, {14, 11, 3, 14, 1},
		{15, 15, 0, 15, 0}, // behind the last break
		{16, 15, 0, 15, 0}, {highest, 15, 0, 15, 0},
	} {
		line, col, end, indent := impl.LineAt(s, c.p), impl.Col(s, c.p), impl.EndAt(s, c.p), impl.IndentAt(s, c.p)
		if line != c.line || col != c.col || end != c.end || indent != c.indent {
			t.Errorf("%q at %d: %d, %d, %d, %d, not %d, %d, %d, %d", s, c.p, line, col, end, indent, c.line, c.col, c.end, c.indent)
		}
	}
	for _, p := range []int{lowest, -1, 0, 1, highest} {
		if got, want := answersOf("", p), (lineAnswers{restOk: true, lone: true}); got != want {
			t.Errorf("the empty text at %d: %+v, not %+v", p, got, want)
		}
	}
	if got := impl.Col("ab", highest); got != 2 {
		t.Errorf("Col behind the end = %d, not 2", got)
	}
	if got := impl.IndentAt("   ", 1); got != 3 {
		t.Errorf("IndentAt of blanks alone = %d, not 3", got)
	}
	if got := impl.IndentAt(" \n   a", 0); got != 1 {
		t.Errorf("IndentAt goes over a break: %d, not 1", got)
	}
}

func TestMarkEdges(t *testing.T) {
	for _, c := range []struct {
		s       string
		p, want int
	}{
		{"---", 0, 1}, {"...", 0, 2}, {"--- a", 0, 1}, {"... a", 0, 2}, {"---\ta", 0, 1}, {"...\ta", 0, 2},
		{"---\n", 0, 1}, {"...\n", 0, 2}, {"---a", 0, 0}, {"...a", 0, 0}, {"----", 0, 0}, {"....", 0, 0},
		{"---#", 0, 0}, {"---...", 0, 0}, {"---\r", 0, 0}, {"---\x00", 0, 0}, {"---\u00a0", 0, 0},
		{"--", 0, 0}, {"..", 0, 0}, {"-", 0, 0}, {"", 0, 0}, {"-- ", 0, 0}, {"--.", 0, 0}, {"..-", 0, 0}, {"- -", 0, 0},
		{" ---", 0, 0}, {" ---", 1, 0}, {"a---", 1, 0}, {"\t...", 1, 0}, {"- ---", 2, 0},
		{"a\n---", 0, 0}, {"a\n---", 1, 0}, {"a\n---", 2, 1}, {"a\n...\n", 2, 2}, {"a\n---", 3, 0}, {"a\n---", 5, 0},
		{"\n---", 1, 1}, {"\n\n...", 2, 2}, {"---\n...", 4, 2}, {"...\n---\n", 4, 1}, {"\r---", 1, 0},
		{"---", -1, 1}, {"...", lowest, 2}, {"---", 3, 0}, {"---", 4, 0}, {"---", highest, 0}, {"a\n---", highest, 0}, {"---\n", 4, 0},
	} {
		if got := impl.MarkAt(c.s, c.p); got != c.want {
			t.Errorf("MarkAt(%q, %d) = %d, not %d", c.s, c.p, got, c.want)
		}
	}
}

func TestWhiteEdges(t *testing.T) {
	for _, c := range []struct {
		s       string
		p, want int
	}{
		{"a", 0, 0}, {"  a", 0, 2}, {" \t a", 0, 3}, {" \t a", 1, 3}, {"a  ", 1, 3}, {" \n ", 0, 1}, {" \n ", 1, 1}, {" \n ", 2, 3},
		{"\t\t", 0, 2}, {" \r", 0, 1}, {" \u00a0", 0, 1}, {" \x00", 0, 1}, {" \xa0", 0, 1}, {" #", 0, 1},
		{"  a", -1, 2}, {"  a", lowest, 2}, {"a  ", 3, 3}, {"a  ", highest, 3},
	} {
		if got := impl.White(c.s, c.p); got != c.want {
			t.Errorf("White(%q, %d) = %d, not %d", c.s, c.p, got, c.want)
		}
	}
}

func TestRestEdges(t *testing.T) {
	for _, c := range []struct {
		s       string
		p, want int
		ok      bool
	}{
		{"a", 0, 0, false}, {"a", 1, 1, true}, {"a\n", 1, 1, true}, {"a  \nb", 1, 3, true}, {"a \t", 1, 3, true},
		{"a  b", 1, 3, false}, {"a\nb", 2, 2, false}, {"a\n b", 1, 1, true}, {"a\n b", 2, 3, false},
		{"#r", 0, 2, true}, {"#r\nb", 0, 2, true}, {"  #r\nb", 0, 4, true}, {"a\n#r\nb", 2, 4, true}, {"a\n\t#r", 2, 5, true},
		{"#", 0, 1, true}, {"##", 1, 1, false}, {"#", -1, 1, true}, {"#", lowest, 1, true}, {" #", -7, 2, true},
		{"a#r", 1, 1, false}, {"a #r", 1, 4, true}, {"a #r\nb", 1, 4, true}, {"a\t#", 1, 3, true},
		// Right at the remark that has white ahead of it: that white is ahead of the place.
		{"a #r", 2, 2, false}, {" #r", 1, 1, false}, {"a  #r", 2, 5, true}, {"a  #r", 3, 3, false}, {"\n #r", 2, 2, false},
		{"a # r # s\n", 1, 9, true}, {"a #r\n#s\n", 1, 4, true}, {"#\xff\x00\n", 0, 3, true},
		{"a \r", 1, 2, false}, {"a \x00", 1, 2, false}, {"a\xff", 1, 1, false}, {"#\r#", 0, 3, true}, {"\r#", 1, 1, false},
		{"a ", highest, 2, true}, {"a#", highest, 2, true}, {"\n\n", 0, 0, true}, {"\n\n", 1, 1, true}, {"\n\n", 2, 2, true},
	} {
		if got, ok := impl.Rest(c.s, c.p); got != c.want || ok != c.ok {
			t.Errorf("Rest(%q, %d) = %d, %v, not %d, %v", c.s, c.p, got, ok, c.want, c.ok)
		}
	}
}

func TestGapEdges(t *testing.T) {
	for _, c := range []struct {
		s       string
		p, want int
	}{
		{"a", 0, 0}, {"a", 1, 1}, {" a", 0, 1}, {"\n\n", 0, 2}, {" \t \t", 0, 4}, {"a\n\n  b", 1, 5}, {"a\n", 1, 2},
		{"#r", 0, 2}, {"#r\na", 0, 3}, {"\n#r\na", 0, 4}, {" #r\n a", 0, 5}, {"\t#r\n\ta", 0, 5}, {"#", 0, 1}, {"a\n#", 1, 3}, {"a\n#", 2, 3},
		{"a#r", 1, 1}, {"a #r", 1, 4}, {"\r#r", 1, 1}, {"\xff#r", 1, 1}, {"\x00#r", 1, 1}, {"\u00a0#r", 2, 2},
		// Right at the remark: what is ahead of the place counts.
		{"a #r", 2, 4}, {"a\t#r\nb", 2, 5}, {"a  #r", 3, 5},
		// Within a remark: its bytes are like any others, but for a # with white ahead of it.
		{"#r s", 1, 1}, {"#r s", 2, 3}, {"##", 1, 1}, {"# # r", 2, 5}, {"# # r", 1, 5},
		{"#a\n#b\n\n  #c\n\t\n#d\ne", 0, 17}, {"a #b\n#c\n\n\n", 1, 10}, {"a #b\n---\n", 1, 5}, {"#a\n#b", 0, 5},
		{"#\xff\x00\r#\nb", 0, 6}, {" \r", 0, 1}, {" \x00", 0, 1}, {" \xff", 0, 1},
		{"", 0, 0}, {" a", -1, 1}, {"#\na", lowest, 2}, {" a ", highest, 3}, {"a#", highest, 2},
	} {
		if got := impl.Gap(c.s, c.p); got != c.want {
			t.Errorf("Gap(%q, %d) = %d, not %d", c.s, c.p, got, c.want)
		}
	}
}

func TestLoneEdges(t *testing.T) {
	const s = "a\n \t\n\n #\n b\n\r\n\x00\n"
	for _, c := range []struct {
		p    int
		want bool
	}{
		{lowest, false}, {0, false}, {1, false}, {2, true}, {3, true}, {4, true}, {5, true}, {6, false}, {8, false},
		{9, false}, {11, false}, {12, false}, {13, false}, {14, false}, {15, false}, {16, true}, {highest, true},
	} {
		if got := impl.Lone(s, c.p); got != c.want {
			t.Errorf("Lone(%q, %d) = %v", s, c.p, got)
		}
	}
	if !impl.Lone("a\n ", 3) || impl.Lone(" a", 0) || impl.Lone(" a ", highest) {
		t.Error("Lone where the text ends")
	}
}

// P9: the greatest texts are gone over in time.
func TestLinesOfGreatTexts(t *testing.T) {
	most := impl.MaxText
	for _, c := range []struct {
		s    string
		want lineAnswers
	}{
		{strings.Repeat(" ", most), lineAnswers{end: most, indent: most, white: most, rest: most, restOk: true, gap: most, lone: true}},
		{strings.Repeat("\n", most), lineAnswers{restOk: true, gap: most, lone: true}},
		{strings.Repeat("#", most), lineAnswers{end: most, rest: most, restOk: true, gap: most}},
		{strings.Repeat("#\n", most/2), lineAnswers{end: 1, rest: 1, restOk: true, gap: most}},
		{strings.Repeat(" #\n", most/3), lineAnswers{end: 2, indent: 1, white: 1, rest: 2, restOk: true, gap: most}},
		{strings.Repeat("a", most), lineAnswers{end: most}},
	} {
		if got := answersOf(c.s, 0); got != c.want {
			t.Errorf("%q .. at 0: %+v, not %+v", c.s[:4], got, c.want)
		}
		if got, want := impl.LineAt(c.s, most)+impl.Col(c.s, most), most; got != want {
			t.Errorf("%q .. at its end: the line and the column are %d together", c.s[:4], got)
		}
	}
}
