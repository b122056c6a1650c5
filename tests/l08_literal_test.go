package tests

import (
	"regexp"
	"strings"
	"testing"

	"loop.example/g00666/impl"
)

// headOf is what HeadAt answers.
type headOf struct {
	digit, chomp, place, code int
}

func headAt(s string, p int) headOf {
	digit, chomp, place, code := impl.HeadAt(s, p)
	return headOf{digit, chomp, place, code}
}

// literalOf is what LiteralAt answers.
type literalOf struct {
	text        string
	place, code int
}

func literalAt(s string, p, n int) literalOf {
	text, place, code := impl.LiteralAt(s, p, n)
	return literalOf{text, place, code}
}

var (
	headRule     = regexp.MustCompile(`^[|>](?:[1-9][+-]?|[+-][1-9]?)?`)
	markLineRule = regexp.MustCompile(`^(?:---|\.\.\.)(?:[ \t]|$)`)
)

func headByRule(s string, p int) headOf {
	p = placeByRule(s, p)
	m := headRule.FindString(s[p:])
	if m == "" {
		return headOf{0, 0, p, 10}
	}
	place, ok := restByRule(s, p+len(m))
	if !ok {
		return headOf{0, 0, place, 6}
	}
	out := headOf{0, 0, place, 0}
	if i := strings.IndexAny(m, "123456789"); i > 0 {
		out.digit = strings.IndexByte("0123456789", m[i])
	}
	if strings.Contains(m, "-") {
		out.chomp = 1
	}
	if strings.Contains(m, "+") {
		out.chomp = 2
	}
	return out
}

// linesBehindByRule cuts what is behind a line's end into lines, up to ahead of the first mark; what is behind the last break is a line if it has bytes.
func linesBehindByRule(s string, end int) []string {
	if end == len(s) {
		return nil
	}
	l := strings.Split(s[end+1:], "\n")
	if l[len(l)-1] == "" {
		l = l[:len(l)-1]
	}
	for i, line := range l {
		if markLineRule.MatchString(line) {
			return l[:i]
		}
	}
	return l
}

// depthByRule tells the column from which lines are taken, and how many of the first ones are empty in any case.
func depthByRule(l []string, n, digit int) (int, int) {
	switch {
	case digit > 0 && n > 60000:
		return 60000, 0
	case digit > 0 && n < 0:
		return digit, 0
	case digit > 0:
		return n + digit, 0
	}
	for i, line := range l {
		if loneRule.MatchString(line) {
			continue
		}
		if indent := len(blankRule.FindString(line)); indent > n {
			return indent, i
		}
		break
	}
	return 60000, len(l)
}

func literalByRule(s string, p, n int) literalOf {
	head := headByRule(s, p)
	if head.code != 0 {
		return literalOf{"", head.place, head.code}
	}
	l := linesBehindByRule(s, head.place)
	d, empties := depthByRule(l, n, head.digit)
	place := placeByRule(s, head.place+1)
	var taken []string
	for i, line := range l {
		indent, lone := len(blankRule.FindString(line)), loneRule.MatchString(line)
		if !lone && indent < d {
			break
		}
		text := ""
		if i >= empties && (!lone || indent > d) {
			text = line[d:]
		}
		taken = append(taken, text)
		place = placeByRule(s, place+len(line)+1)
	}
	return literalOf{blockByRule(taken, s[placeByRule(s, p)] == '>', head.chomp), place, 0}
}

// P9: both functions answer by their rules, at every place of many texts and outside of them.
func TestLiteralsOfManyTexts(t *testing.T) {
	check := func(s string) {
		for p := -1; p <= len(s)+1; p++ {
			if got, want := headAt(s, p), headByRule(s, p); got != want {
				t.Fatalf("HeadAt(%q, %d) = %+v, not %+v", s, p, got, want)
			}
			for n := -2; n <= 3; n++ {
				if got, want := literalAt(s, p, n), literalByRule(s, p, n); got != want {
					t.Fatalf("LiteralAt(%q, %d, %d) = %#v, not %#v", s, p, n, got, want)
				}
			}
		}
	}
	eachText([]string{"|", ">", "0", "1", "9", "+", "-", " ", "\t", "#", "\n", "a"}, 4, check)
	eachText([]string{">", "|2+", " ", "\n", "a"}, 6, check)
}

// P9: the lines behind heads of every kind, by the rule.
func TestLinesBehindManyHeads(t *testing.T) {
	heads := []string{"|", ">", "|-", ">-", "|+", ">+", "|1", ">1", "|2-", ">+2", "|3+", "|9"}
	check := func(body string) {
		for _, head := range heads {
			s := head + "\n" + body
			for n := -1; n <= 2; n++ {
				if got, want := literalAt(s, 0, n), literalByRule(s, 0, n); got != want {
					t.Fatalf("LiteralAt(%q, 0, %d) = %#v, not %#v", s, n, got, want)
				}
			}
		}
	}
	eachText([]string{" ", "   ", "\t", "\n", "a", "\n---", "\n..."}, 5, check)
	eachText([]string{"a\n", " b\n", "  c\n", "   d\n", "\n", " \n", "  \n", "   \n", " \t\n", "--- e\n"}, 4, check)
	eachText([]string{" ", "\n", "\r", "\x00", "\xff", "é", "\u00a0", "# r"}, 4, check)
}

// headCase is a text, a place of it, and what HeadAt must answer there.
type headCase struct {
	s                         string
	p                         int
	digit, chomp, place, code int
}

// checkHeads asks each case with both signs; the cases are written with |.
func checkHeads(t *testing.T, l []headCase) {
	t.Helper()
	for _, c := range l {
		want := headOf{c.digit, c.chomp, c.place, c.code}
		for _, s := range []string{c.s, strings.ReplaceAll(c.s, "|", ">")} {
			if got := headAt(s, c.p); got != want {
				t.Errorf("HeadAt(%q, %d) = %+v, not %+v", s, c.p, got, want)
			}
		}
	}
}

// P9: heads that are right: each sign alone, with a digit, with + and with -, with both in either order.
func TestHeadAtRight(t *testing.T) {
	checkHeads(t, []headCase{
		{"|\n", 0, 0, impl.ChClip, 1, 0}, {"|+\n", 0, 0, impl.ChKeep, 2, 0}, {"|-\n", 0, 0, impl.ChStrip, 2, 0},
		{"|1\n", 0, 1, impl.ChClip, 2, 0}, {"|9\n", 0, 9, impl.ChClip, 2, 0}, {"|5\na", 0, 5, impl.ChClip, 2, 0},
		{"|1+\n", 0, 1, impl.ChKeep, 3, 0}, {"|9-\n", 0, 9, impl.ChStrip, 3, 0}, {"|2-\n", 0, 2, impl.ChStrip, 3, 0}, {"|+1\n", 0, 1, impl.ChKeep, 3, 0}, {"|-9\n", 0, 9, impl.ChStrip, 3, 0}, {"|-2\n", 0, 2, impl.ChStrip, 3, 0},
		// The end of the text directly behind it, white alone behind it, a remark behind white.
		{"|", 0, 0, impl.ChClip, 1, 0}, {"|+", 0, 0, impl.ChKeep, 2, 0}, {"|3", 0, 3, impl.ChClip, 2, 0}, {"|3-", 0, 3, impl.ChStrip, 3, 0}, {"|-3", 0, 3, impl.ChStrip, 3, 0},
		{"| ", 0, 0, impl.ChClip, 2, 0}, {"|\t\n", 0, 0, impl.ChClip, 2, 0}, {"|1 \t \na", 0, 1, impl.ChClip, 5, 0}, {"|-  ", 0, 0, impl.ChStrip, 4, 0}, {"|1+\t", 0, 1, impl.ChKeep, 4, 0},
		{"| #r\na", 0, 0, impl.ChClip, 4, 0}, {"|\t#", 0, 0, impl.ChClip, 3, 0}, {"|2- # r\nx", 0, 2, impl.ChStrip, 7, 0}, {"|+  # 1 - | # r\n", 0, 0, impl.ChKeep, 15, 0}, {"|1 #", 0, 1, impl.ChClip, 4, 0},
		// Not at the beginning of the line, and on a line behind others.
		{"k: |\n  a", 3, 0, impl.ChClip, 4, 0}, {"- |1-\n", 2, 1, impl.ChStrip, 5, 0}, {"a\n|+", 2, 0, impl.ChKeep, 4, 0}, {"a\nk: |3 # r\nb", 5, 3, impl.ChClip, 11, 0}, {"||", 1, 0, impl.ChClip, 2, 0},
	})
}

// P9: what stands behind a head isn't nothing: code 6, and the place that Rest tells.
func TestHeadAtWrongRest(t *testing.T) {
	checkHeads(t, []headCase{
		// 0, two digits, two of + and -.
		{"|0", 0, 0, 0, 1, 6}, {"|0\n a", 0, 0, 0, 1, 6}, {"|10\n", 0, 0, 0, 2, 6}, {"|01\n", 0, 0, 0, 1, 6}, {"|12\n", 0, 0, 0, 2, 6}, {"|11\n", 0, 0, 0, 2, 6}, {"|99", 0, 0, 0, 2, 6}, {"|1+1\n", 0, 0, 0, 3, 6}, {"|+12\n", 0, 0, 0, 3, 6}, {"|+0\n", 0, 0, 0, 2, 6}, {"|-0", 0, 0, 0, 2, 6}, {"|0-", 0, 0, 0, 1, 6},
		{"|++\n", 0, 0, 0, 2, 6}, {"|--\n", 0, 0, 0, 2, 6}, {"|+-\n", 0, 0, 0, 2, 6}, {"|-+", 0, 0, 0, 2, 6}, {"|1++", 0, 0, 0, 3, 6}, {"|+1-\n", 0, 0, 0, 3, 6}, {"|-1-\n", 0, 0, 0, 3, 6}, {"|-1+", 0, 0, 0, 3, 6}, {"|1--", 0, 0, 0, 3, 6},
		// A blank ahead of a digit, or of + and -.
		{"| 1\n", 0, 0, 0, 2, 6}, {"| +", 0, 0, 0, 2, 6}, {"| -\n", 0, 0, 0, 2, 6}, {"|1 +\n", 0, 0, 0, 3, 6}, {"|+ 1\n", 0, 0, 0, 3, 6}, {"|- \t9", 0, 0, 0, 4, 6}, {"|\t1", 0, 0, 0, 2, 6},
		// Anything else, with and without white; a remark without white.
		{"|a", 0, 0, 0, 1, 6}, {"| a\n", 0, 0, 0, 2, 6}, {"|  \ta # r\n", 0, 0, 0, 4, 6}, {"|1a", 0, 0, 0, 2, 6}, {"|-a\n", 0, 0, 0, 2, 6}, {"|1-a", 0, 0, 0, 3, 6}, {"|1- a", 0, 0, 0, 4, 6}, {"|#r\n", 0, 0, 0, 1, 6}, {"|1#r", 0, 0, 0, 2, 6}, {"|+#", 0, 0, 0, 2, 6}, {"|2-# r\n", 0, 0, 0, 3, 6}, {"||\n", 0, 0, 0, 1, 6}, {"k: | a", 3, 0, 0, 5, 6},
		{"|\x00", 0, 0, 0, 1, 6}, {"|1\xff\n", 0, 0, 0, 2, 6}, {"|\r\n", 0, 0, 0, 1, 6}, {"| \xc3", 0, 0, 0, 2, 6}, {"|\u00a0\n", 0, 0, 0, 1, 6}, {"|１", 0, 0, 0, 1, 6}, {"|\v", 0, 0, 0, 1, 6}, {"|*", 0, 0, 0, 1, 6}, {"|,", 0, 0, 0, 1, 6}, {"|:", 0, 0, 0, 1, 6},
	})
	// The other sign is no sign of a head behind the first one.
	for _, s := range []string{"|>\n a", ">|\n a", "|> ", ">|"} {
		if got := headAt(s, 0); got != (headOf{0, 0, 1, 6}) {
			t.Errorf("HeadAt(%q, 0) = %+v", s, got)
		}
	}
}

// P9: neither sign at p: code 10 and p; and places outside of the text.
func TestHeadAtNone(t *testing.T) {
	checkHeads(t, []headCase{
		{"x", 0, 0, 0, 0, 10}, {"a|", 0, 0, 0, 0, 10}, {" |", 0, 0, 0, 0, 10}, {"\n|", 0, 0, 0, 0, 10}, {"|1", 1, 0, 0, 1, 10}, {"|+\n", 1, 0, 0, 1, 10}, {"|\n a", 1, 0, 0, 1, 10}, {"|\n a", 3, 0, 0, 3, 10}, {"- |", 0, 0, 0, 0, 10}, {"1|", 0, 0, 0, 0, 10}, {"#|", 0, 0, 0, 0, 10},
		{"\x00|", 0, 0, 0, 0, 10}, {"\xff|", 0, 0, 0, 0, 10}, {"\xc3", 0, 0, 0, 0, 10}, {"｜", 0, 0, 0, 0, 10},
		{"", 0, 0, 0, 0, 10}, {"", -1, 0, 0, 0, 10}, {"", 1, 0, 0, 0, 10}, {"", lowest, 0, 0, 0, 10}, {"", highest, 0, 0, 0, 10},
		{"|", 1, 0, 0, 1, 10}, {"|", 2, 0, 0, 1, 10}, {"|", highest, 0, 0, 1, 10}, {"a\n|", highest - 1, 0, 0, 3, 10}, {"a|", -1, 0, 0, 0, 10}, {"a|", lowest, 0, 0, 0, 10},
		// A place below 0 counts as 0.
		{"|2-", -1, 2, impl.ChStrip, 3, 0}, {"|2-", lowest, 2, impl.ChStrip, 3, 0}, {"| a", lowest, 0, 0, 2, 6},
	})
}

// P9: each byte as the sign, and each byte behind it.
func TestEveryByteOfAHead(t *testing.T) {
	for b := range 256 {
		c := string([]byte{byte(b)})
		first, behind := headOf{0, 0, 0, 10}, headOf{0, 0, 1, 6}
		switch {
		case c == "|" || c == ">":
			first = headOf{0, 0, 1, 0}
		case c == " " || c == "\t":
			behind = headOf{0, 0, 2, 0}
		case c == "\n":
			behind = headOf{0, 0, 1, 0}
		case c == "-":
			behind = headOf{0, impl.ChStrip, 2, 0}
		case c == "+":
			behind = headOf{0, impl.ChKeep, 2, 0}
		case b >= '1' && b <= '9':
			behind = headOf{b - '0', 0, 2, 0}
		}
		if got := headAt(c, 0); got != first {
			t.Errorf("HeadAt(%q, 0) = %+v, not %+v", c, got, first)
		}
		for _, sign := range []string{"|", ">"} {
			if got := headAt(sign+c, 0); got != behind {
				t.Errorf("HeadAt(%q, 0) = %+v, not %+v", sign+c, got, behind)
			}
		}
	}
}

// literalCase is a call of LiteralAt and what it must answer.
type literalCase struct {
	s           string
	p, n        int
	text        string
	place, code int
}

func checkLiterals(t *testing.T, l []literalCase) {
	t.Helper()
	for _, c := range l {
		want := literalOf{c.text, c.place, c.code}
		if got := literalAt(c.s, c.p, c.n); got != want {
			t.Errorf("LiteralAt(%q, %d, %d) = %#v, not %#v", c.s, c.p, c.n, got, want)
		}
	}
}

// P9: the codes of HeadAt, with their places and nothing else.
func TestLiteralAtFaults(t *testing.T) {
	for _, n := range []int{lowest, -1, 0, 1, impl.MaxText + 1, highest} {
		checkLiterals(t, []literalCase{
			{"x\n a", 0, n, "", 0, 10}, {"|\n a", 1, n, "", 1, 10}, {"|\n a", 3, n, "", 3, 10}, {"", 0, n, "", 0, 10}, {" |\n a", 0, n, "", 0, 10}, {"|\n a", 4, n, "", 4, 10}, {">1", 1, n, "", 1, 10},
			{"> x", 0, n, "", 2, 6}, {"|0\n a", 0, n, "", 1, 6}, {"|12\n a", 0, n, "", 2, 6}, {"|+-\n a", 0, n, "", 2, 6}, {"| 1\n a", 0, n, "", 2, 6}, {"|#r\n a", 0, n, "", 1, 6}, {">1+ a\n b", 0, n, "", 4, 6}, {"k: >- a\n b", 3, n, "", 6, 6},
		})
	}
}

// P9: no line behind the head, with and without a break there.
func TestLiteralAtNoLine(t *testing.T) {
	for _, head := range []string{"|", ">", "|+", ">+", "|-", ">-", "|1", ">9+", "|-3", "| ", "> # r", "|+\t#"} {
		for _, n := range []int{lowest, -1, 0, 7, impl.MaxText + 1, highest} {
			checkLiterals(t, []literalCase{
				{head, 0, n, "", len(head), 0}, {head + "\n", 0, n, "", len(head) + 1, 0},
				{"k: " + head, 3, n, "", len(head) + 3, 0}, {"k: " + head + "\n", 3, n, "", len(head) + 4, 0},
				{head + "\n---", 0, n, "", len(head) + 1, 0}, {head + "\n... a\n", 0, n, "", len(head) + 1, 0},
			})
		}
	}
}

// P9: the three ways of ending a text, with lines at the end that are empty or white alone.
func TestLiteralAtEndings(t *testing.T) {
	for _, sign := range []string{"|", ">"} {
		for _, x := range []struct {
			behind  string
			empties int
		}{
			// With a break at the end of the text, and without one: white behind the last break is a line too.
			{"", 0}, {"\n", 0}, {"\n\n", 1}, {"\n\n\n", 2}, {"\n \n", 1}, {"\n ", 1}, {"\n\n ", 2}, {"\n \n\n ", 3}, {"\n\t\n", 1}, {"\n\t", 1}, {"\n \t", 1}, {"\n \t\n\n", 2}, {"\n\n\n\n\n", 4},
		} {
			body := "\n a" + x.behind
			for head, text := range map[string]string{"": "a\n", "-": "a", "+": "a\n" + strings.Repeat("\n", x.empties), "1": "a\n", "1-": "a", "+1": "a\n" + strings.Repeat("\n", x.empties)} {
				s := sign + head + body
				checkLiterals(t, []literalCase{{s, 0, 0, text, len(s), 0}, {s, 0, -1, text, len(s), 0}})
				// The same with a line, and with a mark, that ends it behind these.
				if strings.HasSuffix(s, "\n") {
					checkLiterals(t, []literalCase{{s + "b", 0, 0, text, len(s), 0}, {s + "b: c\n", 0, 0, text, len(s), 0}, {s + "# r\n a\n", 0, 0, text, len(s), 0}, {s + "---\n a", 0, 0, text, len(s), 0}, {s + "...", 0, -1, text, len(s), 0}})
				}
			}
		}
	}
}

// P9: lines that are white alone and nothing else, up to the end of the text, to a mark, and to a line that isn't deep enough.
func TestLiteralAtLoneLines(t *testing.T) {
	for _, sign := range []string{"|", ">"} {
		for _, x := range []struct {
			body  string
			lines int
		}{
			{"", 0}, {"\n", 1}, {"\n\n", 2}, {" \n", 1}, {"   \n", 1}, {"\t\n", 1}, {" \t \n  \n", 2}, {"\n  \n    \n", 3}, {"      \n\n", 2},
		} {
			for _, n := range []int{lowest, -1, 0, 1, 3, impl.MaxText, highest} {
				kept := strings.Repeat("\n", x.lines)
				place := len(sign) + 2 + len(x.body)
				for _, behind := range []string{"", "---", "--- a\n b", "...\n", "...\ta"} {
					checkLiterals(t, []literalCase{{sign + "+\n" + x.body + behind, 0, n, kept, place, 0}, {sign + "-\n" + x.body + behind, 0, n, "", place, 0}, {sign + "\n" + x.body + behind, 0, n, "", place - 1, 0}})
				}
				if n >= 0 {
					checkLiterals(t, []literalCase{{sign + "+\n" + x.body + "a\n", 0, n, kept, place, 0}, {sign + "\n" + x.body + "# r\n", 0, n, "", place - 1, 0}})
				}
			}
		}
	}
	// Without a break at the end.
	checkLiterals(t, []literalCase{{"|+\n ", 0, 0, "\n", 4, 0}, {">+\n\n\t", 0, -1, "\n\n", 5, 0}, {"|\n   ", 0, 0, "", 5, 0}, {"|+\n  \n    ", 0, 7, "\n\n", 10, 0}})
}

// P9: the depth comes from the first line that isn't white alone, where that is above n.
func TestLiteralAtDepthOfALine(t *testing.T) {
	checkLiterals(t, []literalCase{
		// Its IndentAt is below n, is n, is one above n, and more.
		{"|\n a\n", 0, 2, "", 2, 0}, {"|\n a\n", 0, 1, "", 2, 0}, {"|\n a\n", 0, 0, "a\n", 5, 0}, {"|\n a\n", 0, -1, "a\n", 5, 0}, {"|\na\n", 0, 0, "", 2, 0}, {"|\na\n", 0, -1, "a\n", 4, 0}, {"|\na\nb\n\nc", 0, -1, "a\nb\n\nc\n", 8, 0}, {"|\n    a\n", 0, 1, "a\n", 8, 0}, {"|\n    a\n", 0, 3, "a\n", 8, 0}, {"|\n    a\n", 0, 4, "", 2, 0},
		{"|+\n\n\n a\n", 0, 1, "\n\n", 5, 0}, {"|+\n  \n a\n", 0, 1, "\n", 6, 0}, {"|+\n a\n", 0, 1, "", 3, 0},
		// Further lines whose IndentAt is below d, is d, and is above d.
		{"|\n  a\n b\n", 0, 0, "a\n", 6, 0}, {"|\n  a\nb\n", 0, 0, "a\n", 6, 0}, {"|\n  a\n  b\n", 0, 0, "a\nb\n", 10, 0}, {"|\n  a\n   b\n", 0, 0, "a\n b\n", 11, 0}, {"|\n  a\n     b\n  c", 0, 0, "a\n   b\nc\n", 16, 0}, {"|\n  a\n   b\n\n  c\nd", 0, 0, "a\n b\n\nc\n", 16, 0}, {"|\n  a\n\n b\n", 0, 0, "a\n", 7, 0}, {"|+\n  a\n\n b\n", 0, 0, "a\n\n", 8, 0},
		// A line that isn't deep enough for the scalar ends it, also where it is deeper than n.
		{"|\n    a\n  b\n", 0, 0, "a\n", 8, 0}, {"|\n    a\n  b\n    c", 0, -1, "a\n", 8, 0}, {"|\n a\nb", 0, -1, "a\n", 5, 0},
		// Of a line that is white alone: IndentAt below d, d, and above d; a tab in it.
		{"|\n  a\n \n  b", 0, 0, "a\n\nb\n", 11, 0}, {"|\n  a\n  \n  b", 0, 0, "a\n\nb\n", 12, 0}, {"|\n  a\n   \n  b", 0, 0, "a\n \nb\n", 13, 0}, {"|\n  a\n     \n  b", 0, 0, "a\n   \nb\n", 15, 0},
		{"|\n  a\n\t\n  b", 0, 0, "a\n\nb\n", 11, 0}, {"|\n  a\n \t\n  b", 0, 0, "a\n\nb\n", 12, 0}, {"|\n  a\n  \t\n  b", 0, 0, "a\n\nb\n", 13, 0}, {"|\n  a\n   \t\n  b", 0, 0, "a\n \t\nb\n", 14, 0}, {"|\n  a\n   \t \n  b", 0, 0, "a\n \t \nb\n", 15, 0}, {"|\n  a\n\t   \n  b", 0, 0, "a\n\nb\n", 14, 0}, {"|\n  a\n  \t   \n  b", 0, 0, "a\n\nb\n", 16, 0},
		{"|\na\n \nb", 0, -1, "a\n \nb\n", 7, 0}, {"|\na\n\t\nb", 0, -1, "a\n\nb\n", 7, 0}, {"|\na\n \t", 0, -1, "a\n \t\n", 6, 0},
		// The same at the end: what is taken of it isn't empty.
		{"|\n a\n  ", 0, 0, "a\n \n", 7, 0}, {"|-\n a\n  \n\n", 0, 0, "a\n ", 10, 0}, {"|+\n a\n  \n\n", 0, 0, "a\n \n\n", 10, 0}, {"|-\n a\n  \t\n", 0, 0, "a\n \t", 10, 0},
		// Lines ahead of the first one, with more blanks than that one has.
		{"|\n\n a", 0, 0, "\na\n", 5, 0}, {"|\n  \n a", 0, 0, "\na\n", 7, 0}, {"|\n    \n\n \t\n a\n", 0, 0, "\n\n\na\n", 14, 0}, {"|\n   \na\n   \n", 0, -1, "\na\n   \n", 12, 0}, {"|\n   \t\n a\n   \t\n", 0, 0, "\na\n  \t\n", 15, 0},
		// A tab is no blank: it is part of what is taken.
		{"|\n \ta\n", 0, 0, "\ta\n", 6, 0}, {"|\n\ta\n", 0, 0, "", 2, 0}, {"|\n\ta\n", 0, -1, "\ta\n", 5, 0}, {"|\n  a\n\tb\n", 0, 0, "a\n", 6, 0}, {"|\n  a\n \tb\n", 0, 0, "a\n", 6, 0}, {"|\n  a\n  \tb\n", 0, 0, "a\n\tb\n", 11, 0}, {"|\n a\t \n b ", 0, 0, "a\t \nb \n", 10, 0},
		// What would be a sign elsewhere is taken as it is.
		{"|\n # a\n - b: c\n 'd\n |+\n &e *f", 0, 0, "# a\n- b: c\n'd\n|+\n&e *f\n", 29, 0}, {"|\n#a\n%b", 0, -1, "#a\n%b\n", 7, 0},
	})
}

// P9: a mark of both kinds as the first line, and behind other lines.
func TestLiteralAtMarks(t *testing.T) {
	for _, mark := range []string{"---", "..."} {
		for _, n := range []int{lowest, -2, -1} {
			checkLiterals(t, []literalCase{
				// A break, the end of the text, a blank and a tab behind it.
				{"|\n" + mark + "\n", 0, n, "", 2, 0}, {"|\n" + mark, 0, n, "", 2, 0}, {"|\n" + mark + " a", 0, n, "", 2, 0}, {"|\n" + mark + "\ta", 0, n, "", 2, 0}, {"|+\n\n  \n" + mark + "\n", 0, n, "\n\n", 7, 0}, {"|\n\n" + mark + "\n a", 0, n, "", 3, 0},
				{"|\n a\n" + mark + "\n a", 0, n, "a\n", 5, 0}, {"|\na\n" + mark + "\n", 0, n, "a\n", 4, 0}, {"|\na\nb\n" + mark, 0, n, "a\nb\n", 6, 0}, {">\na\n\n" + mark + " b", 0, n, "a\n", 5, 0}, {"|+\na\n\n\n" + mark, 0, n, "a\n\n\n", 7, 0}, {"|1+\n\n" + mark, 0, n, "\n", 5, 0}, {"|1\n" + mark, 0, n, "", 3, 0}, {"|1\n a\n" + mark + "\n", 0, n, "a\n", 6, 0},
				// Another byte behind it, or a blank ahead of it: no mark.
				{"|\n" + mark + "a\n", 0, n, mark + "a\n", 7, 0}, {"|\na\n" + mark + "\r", 0, n, "a\n" + mark + "\r\n", 8, 0}, {"|\n " + mark + "\n", 0, n, mark + "\n", 7, 0}, {"|\na\n " + mark, 0, n, "a\n " + mark + "\n", 8, 0}, {"|\n" + mark + "#", 0, n, mark + "#\n", 6, 0}, {"|\n" + mark + mark, 0, n, mark + mark + "\n", 8, 0},
			})
		}
	}
	checkLiterals(t, []literalCase{{"|\n---\n", 0, 0, "", 2, 0}, {"|\n---\n", 0, highest, "", 2, 0}, {"|\n a\n...\n", 0, 0, "a\n", 5, 0}, {"--- |\n a\n--- b", 4, -1, "a\n", 9, 0}})
}

// P9: the depth comes from a digit.
func TestLiteralAtDigits(t *testing.T) {
	checkLiterals(t, []literalCase{
		// n below 0, 0, and above 0.
		{"|1\n a\n", 0, lowest, "a\n", 6, 0}, {"|1\n a\n", 0, -2, "a\n", 6, 0}, {"|1\n a\n", 0, -1, "a\n", 6, 0}, {"|1\n a\n", 0, 0, "a\n", 6, 0}, {"|1\n a\n", 0, 1, "", 3, 0}, {"|1\n  a\n", 0, 1, "a\n", 7, 0}, {"|2\n     a\n", 0, 3, "a\n", 10, 0}, {"|2\n    a\n", 0, 3, "", 3, 0}, {"|9\n         a\n", 0, 0, "a\n", 14, 0}, {"|9\n         a\n", 0, 1, "", 3, 0},
		// The first line has more blanks than d, and less; so have further ones.
		{"|1\n  a\n", 0, -1, " a\n", 7, 0}, {"|1\n    a\n b\n", 0, 0, "   a\nb\n", 12, 0}, {"|2\n a\n", 0, 0, "", 3, 0}, {"|2\na\n", 0, -1, "", 3, 0}, {"|2\n   a\n b\n", 0, 0, " a\n", 8, 0}, {"|1+\n  a\n\n", 0, -1, " a\n\n", 9, 0}, {"|2+\n\n a\n", 0, 0, "\n", 5, 0}, {"|1-\n\ta\n", 0, 0, "", 4, 0}, {"|1-\n \ta\n", 0, 0, "\ta", 8, 0},
		// Lines that are white alone, ahead of the first one and behind it.
		{"|1\n\n a\n", 0, 0, "\na\n", 7, 0}, {"|1\n \n a\n", 0, 0, "\na\n", 8, 0}, {"|1\n   \n a\n", 0, 0, "  \na\n", 10, 0}, {"|1\n \t\n a\n", 0, 0, "\na\n", 9, 0}, {"|1\n  \t\n a\n", 0, 0, " \t\na\n", 10, 0}, {"|1\n\t\n a\n", 0, 0, "\na\n", 8, 0}, {"|2\n   \n   a\n    \n", 0, 0, " \n a\n  \n", 17, 0},
		{"|1\n", 0, 0, "", 3, 0}, {"|1\n\n", 0, 0, "", 4, 0}, {"|1+\n\n", 0, 0, "\n", 5, 0}, {"|1\n  \n", 0, 0, " \n", 6, 0}, {"|1-\n  ", 0, 0, " ", 6, 0}, {"|1+\n  \n\n---", 0, 0, " \n\n", 8, 0}, {"|1+\n \n", 0, 0, "\n", 6, 0}, {"|1\n   \nb", 0, 0, "  \n", 7, 0},
		// In either order with + and -, and folded.
		{"|+1\n  a\n\n", 0, -1, " a\n\n", 9, 0}, {"|-1\n  a\n\n", 0, -1, " a", 9, 0}, {">1-\n  a\n b\n c\n", 0, 0, " a\nb c", 14, 0}, {">2\n   \n  a\n", 0, 0, " \na\n", 11, 0},
	})
}

// P9: folded with > and not, with far lines and empty ones between.
func TestLiteralAtFolds(t *testing.T) {
	for _, x := range []struct{ body, kept, folded string }{
		{"a\n b\n", "a\nb\n", "a b\n"}, {"a\n b\n c\n", "a\nb\nc\n", "a b c\n"}, {"a\n\n b\n", "a\n\nb\n", "a\nb\n"}, {"a\n\n\n b\n", "a\n\n\nb\n", "a\n\nb\n"}, {"a\n b\n\n c\n d", "a\nb\n\nc\nd\n", "a b\nc d\n"},
		{"a\n  b\n c\n", "a\n b\nc\n", "a\n b\nc\n"}, {"a\n \tb\n c\n", "a\n\tb\nc\n", "a\n\tb\nc\n"}, {"a\n\n  b\n\n c\n", "a\n\n b\n\nc\n", "a\n\n b\n\nc\n"}, {"a\n  b\n  c\n", "a\n b\n c\n", "a\n b\n c\n"}, {"a\n  b\n\n  c\n d\n e\n", "a\n b\n\n c\nd\ne\n", "a\n b\n\n c\nd e\n"},
		{"a\n  \n b\n", "a\n \nb\n", "a\n \nb\n"}, {"a\n \n b\n", "a\n\nb\n", "a\nb\n"}, {"a\n\t\n b\n", "a\n\nb\n", "a\nb\n"}, {"a \n b\t\n c\n", "a \nb\t\nc\n", "a  b\t c\n"}, {"a\n   \n\n b\n", "a\n  \n\nb\n", "a\n  \n\nb\n"},
	} {
		s := "\n " + x.body
		checkLiterals(t, []literalCase{
			{"|" + s, 0, 0, x.kept, len(s) + 1, 0}, {">" + s, 0, 0, x.folded, len(s) + 1, 0},
			{"|-" + s, 0, 0, strings.TrimSuffix(x.kept, "\n"), len(s) + 2, 0}, {">-" + s, 0, 0, strings.TrimSuffix(x.folded, "\n"), len(s) + 2, 0},
			{"|\n\n" + s, 0, 0, "\n\n" + x.kept, len(s) + 3, 0}, {">\n  \n" + s, 0, 0, "\n\n" + x.folded, len(s) + 5, 0},
			{"|1" + s, 0, -1, x.kept, len(s) + 2, 0}, {">1" + s, 0, -1, x.folded, len(s) + 2, 0},
		})
	}
}

// P9: a head that doesn't stand at the beginning of its line; what is ahead of it doesn't count.
func TestLiteralAtHeadWithinALine(t *testing.T) {
	checkLiterals(t, []literalCase{
		{"k: |\n  a\n  b\nl: c\n", 3, 0, "a\nb\n", 13, 0}, {"- >\n  a\n  b\n- c\n", 2, 0, "a b\n", 12, 0}, {"- - |+\n    a\n\n  - b", 4, 2, "a\n\n", 14, 0}, {"  k: |\n  a\n", 5, 2, "", 7, 0}, {"  k: |\n   a\n", 5, 2, "a\n", 12, 0}, {"    |\n a\n", 4, 0, "a\n", 9, 0},
		{"x\ny: !t &z |1- # r\n  a\n", 11, 0, " a", 23, 0}, {"|\n |\n  a\n", 3, 0, "a\n", 9, 0}, {"a|\n b", 1, 0, "b\n", 5, 0}, {"a>\n b\n c", 1, 0, "b c\n", 8, 0}, {"|\n>\na", 2, -1, "a\n", 5, 0}, {"|\n a\n>\n b\n c\n", 5, 0, "b c\n", 13, 0}, {">|\n b\n c", 1, 0, "b\nc\n", 8, 0},
	})
}

// P9: wrong places and columns, and texts that aren't clean.
func TestLiteralAtWrongInputs(t *testing.T) {
	const s = ">\n a\n b\n"
	checkLiterals(t, []literalCase{
		{s, -1, 0, "a b\n", 8, 0}, {s, lowest, 0, "a b\n", 8, 0}, {s, lowest, lowest, "a b\n", 8, 0}, {s, lowest, highest, "", 2, 0}, {s, 8, 0, "", 8, 10}, {s, 9, 0, "", 8, 10}, {s, highest, lowest, "", 8, 10}, {s, highest, highest, "", 8, 10}, {s, highest - 1, 0, "", 8, 10}, {"a|\n b", lowest, 0, "", 0, 10}, {"a|", highest, 0, "", 2, 10},
		{s, 0, lowest, "a b\n", 8, 0}, {s, 0, lowest + 1, "a b\n", 8, 0}, {s, 0, highest, "", 2, 0}, {s, 0, highest - 1, "", 2, 0}, {"|9\n a\n", 0, highest, "", 3, 0}, {"|9+\n\n a\n", 0, highest, "\n", 5, 0}, {"|9\n a\n", 0, highest - 8, "", 3, 0}, {"|1\n a\n", 0, highest - 1, "", 3, 0}, {"|9\n         a\n", 0, lowest, "a\n", 14, 0}, {"|9\n        a\n", 0, lowest, "", 3, 0},
		{"", lowest, lowest, "", 0, 10}, {"", highest, highest, "", 0, 10}, {"", -1, -1, "", 0, 10}, {"", 1, 1, "", 0, 10},
		{"|\n \x00\n", 0, 0, "\x00\n", 5, 0}, {"|\n a\n \x00\x00 \n", 0, 0, "a\n\x00\x00 \n", 10, 0}, {"|\n\x00", 0, 0, "", 2, 0}, {"|\n\x00", 0, -1, "\x00\n", 3, 0}, {"|\n a\n\x00\n", 0, 0, "a\n", 5, 0}, {">\n \xff\n \xc3\n", 0, 0, "\xff \xc3\n", 8, 0}, {"|\n \xc3\n \xa9\n", 0, 0, "\xc3\n\xa9\n", 8, 0}, {"|\n a\n\xff", 0, 0, "a\n", 5, 0}, {"|1\n\xff a", 0, 0, "", 3, 0},
		{"|\n a\r\n b\r\n", 0, 0, "a\r\nb\r\n", 10, 0}, {"|\n a\n\r\n", 0, 0, "a\n", 5, 0}, {">\n a\n \v\n \u00a0b\n", 0, 0, "a \v \u00a0b\n", 13, 0}, {"|\n\u00a0a", 0, 0, "", 2, 0}, {"|\n---\x00\n", 0, -1, "---\x00\n", 7, 0}, {"|\n---\xff", 0, -1, "---\xff\n", 6, 0}, {"|\x00\n a", 0, 0, "", 1, 6}, {"|\xff\n a", 0, 0, "", 1, 6}, {"|\r\n a", 0, 0, "", 1, 6},
	})
}

// P9: columns around MaxText, with a digit and without, which only texts greater than that can reach.
func TestLiteralAtGreatColumns(t *testing.T) {
	blanks := func(n int) string { return strings.Repeat(" ", n) }
	check := func(head string, n int, body, text string, taken int) {
		t.Helper()
		s := head + "\n" + body
		if got := literalAt(s, 0, n); got != (literalOf{text, len(head) + 1 + taken, 0}) {
			t.Errorf("%q with n %d and a body of %d bytes is read as a text of %d bytes up to %d, code %d", head, n, len(body), len(got.text), got.place, got.code)
		}
	}
	const most = impl.MaxText
	line := func(n int) string { return blanks(n) + "a\n" }
	// With a digit the sum, up to and with MaxText; above it MaxText.
	check("|1", most-1, line(most), "a\n", most+2)
	check("|1", most-1, line(most-1), "", 0)
	check("|1", most, line(most+1), "a\n", most+3)
	check("|1", most, line(most), "", 0)
	check("|9", most, line(most+9), "a\n", most+11)
	check("|9", most, line(most+8), "", 0)
	for _, n := range []int{most + 1, most + 2, 2 * most, highest - 9, highest - 1, highest} {
		for _, head := range []string{"|1", "|9", ">5"} {
			check(head, n, line(most), "a\n", most+2)
			check(head, n, line(most+1), " a\n", most+3)
			check(head, n, line(most-1), "", 0)
			check(head, n, blanks(most+2)+"\n", "  \n", most+3)
		}
	}
	// Without one the line's own, where that is above n, however great it is.
	check("|", most-1, line(most), "a\n", most+2)
	check("|", most, line(most+1), "a\n", most+3)
	check("|", most+1, line(most+2), "a\n", most+4)
	check("|", 0, line(most+7), "a\n", most+9)
	check("|", most, line(most-1), "", 0)
	check("|+", most+1, "\n"+line(3), "\n", 1)
	// Where no line is above n, d is MaxText: a line of so many blanks doesn't end the scalar, and is empty as all are.
	check("|+", most, line(most), "\n", most+2)
	check("|+", highest, line(most+3)+blanks(most+5)+"\n"+line(most)+"b\n", "\n\n\n", 3*most+13)
	check("|+", highest, line(most-1), "", 0)
	check("|+", 0, blanks(most+5)+"\n", "\n", most+6)
}

// written indents lines as they stand behind a head.
func written(l []string, deep int) string {
	out := ""
	for _, line := range l {
		out += strings.Repeat(" ", deep) + line + "\n"
	}
	return out
}

// P5: lines of a block scalar are read as they were written, with a digit, at every column and in whatever stands around it.
func TestLinesOfBlocksAreReadAsWritten(t *testing.T) {
	asked := 0
	eachList([]string{"", "a", " b", "   c d ", "\te", "# f", " ", "  \t", "---", "é\x00\xff", "|+"}, 4, func(l []string) {
		text := strings.Join(append(l, ""), "\n")
		asked++
		for n := -1; n <= 2; n++ {
			body := written(l, max(n, 0)+2)
			for _, head := range []string{"|2+\n", "--- |+2 # r\n", "k: |2+\n"} {
				for _, behind := range []string{"", "---\n", "...", "a: b\n"} {
					s := head + body + behind
					want := literalOf{text, len(head) + len(body), 0}
					if got := literalAt(s, strings.Index(s, "|"), n); got != want {
						t.Fatalf("%#v, written as %q, is read with n %d as %#v", l, s, n, got)
					}
				}
			}
		}
	})
	if asked < 10000 {
		t.Error("too few lists were asked:", asked)
	}
}

// P5: so are they without a digit, where the first line that isn't empty is not far; and without the last break by a dash.
func TestLinesOfBlocksNeedNoDigit(t *testing.T) {
	eachList([]string{"", "a", " b", "\tc", "d: e ", "   ", "...f"}, 5, func(l []string) {
		text := strings.Join(l, "\n")
		first := strings.TrimLeft(text, "\n")
		if first == "" || far(first) || strings.HasSuffix(text, "\n") {
			return
		}
		for _, n := range []int{lowest, -1, 0, 2} {
			for deep := max(n, -1) + 1; deep < 5; deep++ {
				body := written(l, deep)
				for head, want := range map[string]string{"|\n": text + "\n", "|+\n": text + "\n", "|-\n": text} {
					for _, s := range []string{head + body, head + strings.TrimSuffix(body, "\n")} {
						if got := literalAt(s, 0, n); got != (literalOf{want, len(s), 0}) {
							t.Fatalf("%#v, written as %q, is read with n %d as %#v", l, s, n, got)
						}
					}
				}
			}
		}
	})
}

func far(line string) bool {
	return strings.HasPrefix(line, " ") || strings.HasPrefix(line, "\t")
}

// P5: lines that are folded with > differ from those with | in blanks for breaks alone, one for each two neighbours.
func TestFoldedBlocksDifferInBlanksForBreaks(t *testing.T) {
	asked := 0
	eachList([]string{"", "a", "b c", "d ", " far", "\tfar", "é"}, 5, func(l []string) {
		if !nearOnes(l) {
			return
		}
		asked++
		for _, chomp := range []string{"", "+", "-", "1", "-1", "1+"} {
			body := chomp + "\n" + written(l, 1)
			kept, folded := literalAt("|"+body, 0, 0), literalAt(">"+body, 0, 0)
			inner := strings.Trim(kept.text, "\n")
			kept.text = strings.Replace(kept.text, inner, strings.ReplaceAll(inner, "\n", " "), 1)
			if folded != kept {
				t.Fatalf("%q is read as %#v, not %#v", ">"+body, folded, kept)
			}
		}
	})
	if asked < 500 {
		t.Error("too few lists were asked:", asked)
	}
}

// P5: a text of words and breaks is read with > as it was, where one more than the breaks that are meant is written.
func TestBreaksInFoldedBlocksAreEmptyLines(t *testing.T) {
	runs := regexp.MustCompile(`\n+`)
	eachText([]string{"a", "b c", "\n"}, 6, func(text string) {
		if strings.HasPrefix(text, "\n") || strings.HasSuffix(text, "\n") || text == "" {
			return
		}
		body := written(strings.Split(runs.ReplaceAllString(text, "$0\n"), "\n"), 1)
		checkLiterals(t, []literalCase{{">-\n" + body, 0, 0, text, len(body) + 3, 0}, {">1\n" + body, 0, 0, text + "\n", len(body) + 3, 0}})
	})
}

// Chapter 1: what a call answers hangs on its arguments alone, also behind a fault.
func TestLiteralsKeepNothing(t *testing.T) {
	for range 3 {
		checkLiterals(t, []literalCase{
			{">+\n  one\n  two\n\n  three\n\n", 0, 0, "one two\nthree\n\n", 25, 0}, {"|\n", 0, 0, "", 2, 0}, {"|x\n a", 0, 0, "", 1, 6}, {"|1\n  a", 0, 0, " a\n", 6, 0}, {"|\n  a", 0, 0, "a\n", 5, 0}, {"a", 0, 0, "", 0, 10}, {"|+\n\n\n", 0, 0, "\n\n", 5, 0},
		})
		checkHeads(t, []headCase{{"|2+\n", 0, 2, impl.ChKeep, 3, 0}, {"|\n", 0, 0, impl.ChClip, 1, 0}, {"|++", 0, 0, 0, 2, 6}, {"|-", 0, 0, impl.ChStrip, 2, 0}})
	}
}

// Every call ends, in time, also for great texts.
func TestGreatLiterals(t *testing.T) {
	const many = 300000
	for _, c := range []struct {
		s    string
		n    int
		text string
	}{
		{"|+\n" + strings.Repeat("\n", many), 0, strings.Repeat("\n", many)},
		{"|+\n" + strings.Repeat(" \n", many) + " a", 0, strings.Repeat("\n", many) + "a\n"},
		{"|+\n a\n" + strings.Repeat("\n", many), 0, "a\n" + strings.Repeat("\n", many)},
		{"|\n" + strings.Repeat(" a\n", many), 0, strings.Repeat("a\n", many)},
		{">\n" + strings.Repeat(" a\n", many), 0, strings.Repeat("a ", many-1) + "a\n"},
		{">\n" + strings.Repeat(" a\n\n", many), 0, strings.Repeat("a\n", many)},
		{">-\n" + strings.Repeat("a\n b\n", many), -1, strings.TrimSuffix(strings.Repeat("a\n b\n", many), "\n")},
		{"|\n" + strings.Repeat(" ", many) + "a\n", 0, "a\n"},
		{"|1\n" + strings.Repeat(" ", many) + "a\n", 0, strings.Repeat(" ", many-1) + "a\n"},
		{"|\n " + strings.Repeat("a", many), 0, strings.Repeat("a", many) + "\n"},
		{"|\n" + strings.Repeat("---a\n", many), -1, strings.Repeat("---a\n", many)},
		{"|" + strings.Repeat(" ", many) + "\n a", 0, "a\n"},
		{"| #" + strings.Repeat("#", many) + "\n a", 0, "a\n"},
	} {
		if got := literalAt(c.s, 0, c.n); got != (literalOf{c.text, len(c.s), 0}) {
			t.Errorf("%q .. of %d bytes is read as a text of %d, up to %d, code %d", c.s[:6], len(c.s), len(got.text), got.place, got.code)
		}
	}
	if got := headAt("|"+strings.Repeat("1", many), 0); got != (headOf{0, 0, 2, 6}) {
		t.Errorf("a head of many digits: %+v", got)
	}
}
