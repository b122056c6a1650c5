package tests

import (
	"regexp"
	"strings"
	"testing"

	"loop.example/g00666/impl"
)

var (
	plainFirstRule     = regexp.MustCompile("^(?:[^ \\t\\n,\\[\\]{}#&*!|>'\"%@`?:-]|[?:-][^ \\t\\n])")
	plainFirstFlowRule = regexp.MustCompile("^(?:[^ \\t\\n,\\[\\]{}#&*!|>'\"%@`?:-]|[?:-][^ \\t\\n,\\[\\]{}])")
	remarkRule         = regexp.MustCompile(`[ \t]#`)
	colonRule          = regexp.MustCompile(`:(?:[ \t\n]|\z)`)
	colonFlowRule      = regexp.MustCompile(`:(?:[ \t\n,\[\]{}]|\z)`)
	flowSignRule       = regexp.MustCompile(`[,\[\]{}]`)
)

func plainAt(s string, p, n int, flow bool) wordAt {
	text, end, ok := impl.PlainAt(s, p, n, flow)
	return wordAt{text, end, ok}
}

func plainFirstByRule(s string, p int, flow bool) bool {
	rule := plainFirstRule
	if flow {
		rule = plainFirstFlowRule
	}
	return rule.MatchString(s[placeByRule(s, p):])
}

// plainEndByRule finds the first of each thing that ends a stretch by itself, and takes the nearest.
func plainEndByRule(s string, p int, flow bool) int {
	p = placeByRule(s, p)
	tail := s[p:]
	q := lineByRule(s, p).to - p
	nearer := func(rule *regexp.Regexp, behind int) {
		if m := rule.FindStringIndex(tail); m != nil {
			q = min(q, m[0]+behind)
		}
	}
	nearer(remarkRule, 1)
	if flow {
		nearer(colonFlowRule, 0)
		nearer(flowSignRule, 0)
	} else {
		nearer(colonRule, 0)
	}
	return p + len(strings.TrimRight(tail[:q], " \t"))
}

// plainByRule goes through all lines from p on and writes the text as it goes, without pieces.
func plainByRule(s string, p, n int, flow bool) wordAt {
	p = placeByRule(s, p)
	if !plainFirstByRule(s, p, flow) {
		return wordAt{}
	}
	out := wordAt{ok: true}
	at, breaks := p, ""
	for i, line := range strings.Split(s[p:], "\n") {
		body := strings.TrimLeft(line, " \t")
		if i > 0 && body == "" {
			at, breaks = at+len(line)+1, breaks+"\n"
			continue
		}
		from := at + len(line) - len(body)
		to := plainEndByRule(s, from, flow)
		if i > 0 {
			shallow := !flow && len(blankRule.FindString(line)) <= n
			if markByRule(s, at) != 0 || shallow || body[0] == '#' || to == from {
				break
			}
			if breaks == "" {
				breaks = " "
			}
			out.text += breaks
		}
		out.text += s[from:to]
		out.end = to
		if !loneRule.MatchString(s[to : at+len(line)]) {
			break
		}
		at, breaks = at+len(line)+1, ""
	}
	return out
}

// P9: the three functions answer by their rules, at every place of many texts and outside of them.
func TestPlainsOfManyTexts(t *testing.T) {
	check := func(s string) {
		for _, flow := range []bool{false, true} {
			for p := -1; p <= len(s)+1; p++ {
				if got, want := impl.PlainFirst(s, p, flow), plainFirstByRule(s, p, flow); got != want {
					t.Fatalf("PlainFirst(%q, %d, %v) = %v", s, p, flow, got)
				}
				if got, want := impl.PlainEnd(s, p, flow), plainEndByRule(s, p, flow); got != want {
					t.Fatalf("PlainEnd(%q, %d, %v) = %d, not %d", s, p, flow, got, want)
				}
				for _, n := range []int{-1, 0, 1} {
					if got, want := plainAt(s, p, n, flow), plainByRule(s, p, n, flow); got != want {
						t.Fatalf("PlainAt(%q, %d, %d, %v) = %+v, not %+v", s, p, n, flow, got, want)
					}
				}
			}
		}
	}
	eachText([]string{"a", " ", "\t", "\n", "#", ":", ","}, 5, check)
	eachText([]string{"a", " ", "\n", "\n  b", "\n---", "\n...", "\n\n", " #", ": ", "]"}, 4, check)
	eachText([]string{"a", "-", "?", "[", "{", "}", "&", "*", "!", "|", ">", "'", "\"", "%", "@", "`", " ", "\n"}, 3, check)
	eachText([]string{"a", " ", "\n", ":", "#", "\r", "\x00", "\xff", "\xc3", "é", "\u00a0", "\u0085", "\v"}, 3, check)
}

// P9: each byte as the first one, with and without flow; the signs that may not stand alone have their own test.
func TestEveryFirstByteOfAPlain(t *testing.T) {
	for b := range 256 {
		c := string([]byte{byte(b)})
		want := !strings.Contains(" \t\n,[]{}#&*!|>'\"%@`", c)
		for _, flow := range []bool{false, true} {
			if got := impl.PlainFirst(c+"a", 0, flow); got != want {
				t.Errorf("PlainFirst(%q, 0, %v) = %v", c+"a", flow, got)
			}
			if got := impl.PlainFirst("b "+c+"a", 2, flow); got != want {
				t.Errorf("PlainFirst(%q, 2, %v) = %v", "b "+c+"a", flow, got)
			}
			if got, alone := impl.PlainFirst(c, 0, flow), want && !strings.Contains("-?:", c); got != alone {
				t.Errorf("PlainFirst(%q, 0, %v) = %v", c, flow, got)
			}
		}
	}
}

// P9: '-', '?' and ':' begin a plain scalar by what is behind them, whichever byte that is.
func TestEveryByteBehindASign(t *testing.T) {
	for _, sign := range []string{"-", "?", ":"} {
		for b := range 256 {
			s := sign + string([]byte{byte(b)})
			inFlow := !strings.Contains(" \t\n,[]{}", s[1:])
			outside := !strings.Contains(" \t\n", s[1:])
			if got := impl.PlainFirst(s, 0, true); got != inFlow {
				t.Errorf("PlainFirst(%q, 0, true) = %v", s, got)
			}
			if got := impl.PlainFirst(s, 0, false); got != outside {
				t.Errorf("PlainFirst(%q, 0, false) = %v", s, got)
			}
		}
		for _, flow := range []bool{false, true} {
			if impl.PlainFirst(sign, 0, flow) || impl.PlainFirst("a"+sign, 1, flow) || !impl.PlainFirst(sign+sign, 0, flow) {
				t.Errorf("PlainFirst of %q and nothing or itself behind it, flow %v", sign, flow)
			}
		}
	}
}

func TestPlainFirstPlaces(t *testing.T) {
	for _, c := range []struct {
		s          string
		p          int
		want, flow bool
	}{
		{"a #", -1, true, true}, {"a #", lowest, true, true}, {"# a", -1, false, false}, {"# a", lowest, false, false},
		{"a", 1, false, false}, {"a", 2, false, false}, {"a", highest, false, false}, {"a", highest - 1, false, false},
		{"", 0, false, false}, {"", lowest, false, false}, {"", highest, false, false},
		{"a:b", 1, true, true}, {"a: b", 1, false, false}, {"a:,", 1, true, false}, {"a:\n", 1, false, false},
		{"- a", -1, false, false}, {"-a", -1, true, true}, {"-,", -1, true, false}, {"-]", lowest, true, false},
		{"---", 0, true, true}, {"--", 1, false, false}, {"- -", 2, false, false}, {"\\", 0, true, true}, {"\r", 0, true, true},
	} {
		if got := impl.PlainFirst(c.s, c.p, false); got != c.want {
			t.Errorf("PlainFirst(%q, %d, false) = %v", c.s, c.p, got)
		}
		if got := impl.PlainFirst(c.s, c.p, true); got != c.flow {
			t.Errorf("PlainFirst(%q, %d, true) = %v", c.s, c.p, got)
		}
	}
}

// P9: the edges of PlainEnd by hand, without flow and with it.
func TestPlainEndEdges(t *testing.T) {
	for _, c := range []struct {
		s             string
		p, want, flow int
	}{
		// A number sign: at p, with white ahead of p, with white ahead of it beyond p, with another byte ahead of it.
		{"#a", 0, 2, 2}, {"a #b c", 2, 6, 6}, {"a\t#b", 2, 4, 4}, {"\n#b", 1, 3, 3}, {"a #b", 0, 1, 1}, {"a\t#b", 0, 1, 1}, {"a  \t #b", 0, 1, 1},
		{" #b", 0, 0, 0}, {"\t#", 0, 0, 0}, {"a #b", 1, 1, 1}, {"a#b", 0, 3, 3}, {"a#b #c", 0, 3, 3}, {"##", 0, 2, 2}, {"## #", 0, 2, 2}, {"# #", 0, 1, 1},
		{"a:#b", 0, 4, 4}, {"a\u00a0#b", 0, 5, 5}, {"a\r#b", 0, 4, 4}, {"a\x00#", 0, 3, 3}, {"\xa0#", 0, 2, 2},
		// A colon: at p and further on, with a blank, a tab, a break, the end, a flow sign and another byte behind it.
		{": a", 0, 0, 0}, {":\ta", 0, 0, 0}, {":\na", 0, 0, 0}, {":", 0, 0, 0}, {":,", 0, 2, 0}, {":a", 0, 2, 2}, {"a: b", 1, 1, 1}, {"a:b", 1, 3, 3},
		{"a: b", 0, 1, 1}, {"a:\tb", 0, 1, 1}, {"a:\nb", 0, 1, 1}, {"a:", 0, 1, 1}, {"a:b", 0, 3, 3}, {"a:,b", 0, 4, 1}, {"a:[b", 0, 4, 1},
		{"a:]b", 0, 4, 1}, {"a:{b", 0, 4, 1}, {"a:}b", 0, 4, 1}, {"a::b", 0, 4, 4}, {"a:: b", 0, 2, 2}, {"a::", 0, 2, 2}, {"a::,", 0, 4, 2},
		{"a : b", 0, 1, 1}, {"a \t: b", 0, 1, 1}, {"a :b", 0, 4, 4}, {"a :,b", 0, 5, 1}, {"a:b: c", 0, 3, 3}, {"a:\rb", 0, 4, 4}, {"a:\x00", 0, 3, 3}, {"a:\xff", 0, 3, 3},
		// A flow sign.
		{"a,b", 0, 3, 1}, {"a[b", 0, 3, 1}, {"a]b", 0, 3, 1}, {"a{b", 0, 3, 1}, {"a}b", 0, 3, 1}, {",", 0, 1, 0}, {"[a", 0, 2, 0}, {"a , b", 0, 5, 1}, {"a\t ]", 0, 4, 1}, {" ]", 0, 2, 0},
		// Signs that end nothing.
		{"a-b?c&d*e!f|g>h'i\"j%k@l`m", 0, 25, 25}, {"a - ? & * ! | > ' \" % @ ` b", 0, 27, 27}, {"- a", 0, 3, 3}, {"a ---", 0, 5, 5}, {"---", 0, 3, 3}, {"...", 0, 3, 3},
		// White ahead of the end, white alone, the end at p; lines that end by a break and by the end of the text.
		{"a  ", 0, 1, 1}, {"a\t", 0, 1, 1}, {"a \t \n", 0, 1, 1}, {"a b\tc  ", 0, 5, 5}, {"  ", 0, 0, 0}, {" \t\n", 0, 0, 0}, {"a  ", 1, 1, 1}, {"a  ", 2, 2, 2}, {"a  \nb", 2, 2, 2},
		{"a", 1, 1, 1}, {"a\n", 1, 1, 1}, {"\n", 0, 0, 0}, {"a\nb", 0, 1, 1}, {"a\nb", 2, 3, 3}, {"a", 0, 1, 1}, {" a", 0, 2, 2}, {"a\n b", 1, 1, 1}, {"a\n b", 2, 4, 4},
		// Places outside of the text, and texts that aren't clean.
		{"ab c", -1, 4, 4}, {"ab: c", lowest, 2, 2}, {"#", lowest, 1, 1}, {"ab ", 3, 3, 3}, {"ab ", 4, 3, 3}, {"ab ", highest, 3, 3}, {"a:", highest, 2, 2},
		{"", 0, 0, 0}, {"", lowest, 0, 0}, {"", highest, 0, 0}, {"a\x00b\xff\xc3", 0, 5, 5}, {"\xff \x00 ", 0, 3, 3}, {"a\u00a0\n", 0, 3, 3}, {"a\r\n", 0, 2, 2}, {"a\v", 0, 2, 2},
	} {
		if got := impl.PlainEnd(c.s, c.p, false); got != c.want {
			t.Errorf("PlainEnd(%q, %d, false) = %d, not %d", c.s, c.p, got, c.want)
		}
		if got := impl.PlainEnd(c.s, c.p, true); got != c.flow {
			t.Errorf("PlainEnd(%q, %d, true) = %d, not %d", c.s, c.p, got, c.flow)
		}
	}
}

// P9: each byte between two others, behind a colon, and ahead of a number sign.
func TestEveryByteInAPlain(t *testing.T) {
	for b := range 256 {
		c := string([]byte{byte(b)})
		for _, flow := range []bool{false, true} {
			signs := ""
			if flow {
				signs = ",[]{}"
			}
			within, colon, remark := 3, 4, 4
			if strings.Contains("\n"+signs, c) {
				within, remark = 1, 1
			}
			if strings.Contains(" \t\n"+signs, c) {
				colon = 1
			}
			if strings.Contains(" \t", c) {
				remark = 1
			}
			for _, x := range []struct {
				s    string
				want int
			}{{"a" + c + "d", within}, {"a:" + c + "d", colon}, {"a" + c + "#d", remark}} {
				if got := impl.PlainEnd(x.s, 0, flow); got != x.want {
					t.Errorf("PlainEnd(%q, 0, %v) = %d, not %d", x.s, flow, got, x.want)
				}
			}
		}
	}
}

// plainCase is a call of PlainAt and what it must answer.
type plainCase struct {
	s    string
	p, n int
	flow bool
	text string
	end  int
}

func checkPlains(t *testing.T, l []plainCase) {
	t.Helper()
	for _, c := range l {
		want := wordAt{c.text, c.end, true}
		if got := plainAt(c.s, c.p, c.n, c.flow); got != want {
			t.Errorf("PlainAt(%q, %d, %d, %v) = %+v, not %+v", c.s, c.p, c.n, c.flow, got, want)
		}
	}
}

// P9: a plain scalar of one line, and what may stand behind it.
func TestPlainAtOneLine(t *testing.T) {
	checkPlains(t, []plainCase{
		{"a", 0, -1, false, "a", 1}, {"a", 0, -1, true, "a", 1}, {"a b", 0, 0, false, "a b", 3}, {"a  \t b", 0, 0, false, "a  \t b", 6},
		{"a ", 0, -1, false, "a", 1}, {"a\t \t", 0, -1, true, "a", 1}, {"a\n", 0, -1, false, "a", 1}, {"a \n", 0, -1, false, "a", 1},
		{"a \n\n", 0, -1, false, "a", 1}, {"a\n \t\n  ", 0, -1, false, "a", 1}, {"a\n\n\n", 0, -1, true, "a", 1}, {"a \n \n \n", 0, -1, true, "a", 1},
		{"a: b", 0, -1, false, "a", 1}, {"a : b", 0, -1, false, "a", 1}, {"a #b", 0, -1, false, "a", 1}, {"a#b", 0, -1, false, "a#b", 3},
		{"a, b", 0, -1, true, "a", 1}, {"a, b", 0, -1, false, "a, b", 4}, {"a ]", 0, -1, true, "a", 1}, {"a:}", 0, -1, true, "a", 1}, {"a:}", 0, -1, false, "a:}", 3},
		// Within a line and at its beginning.
		{"a bc", 2, -1, false, "bc", 4}, {"abc", 1, -1, false, "bc", 3}, {"- a\n", 2, 0, false, "a", 3}, {"k: v # r", 3, 0, false, "v", 4}, {"[a, b]", 1, -1, true, "a", 2}, {"[a, b]", 4, -1, true, "b", 5},
		{"a\nbc", 2, -1, false, "bc", 4}, {"a\nb\nc\n", 2, 0, false, "b", 3}, {"a\n  b", 4, 5, false, "b", 5},
		// Signs with another byte behind them.
		{"-a", 0, -1, false, "-a", 2}, {"?a", 0, -1, true, "?a", 2}, {":a", 0, -1, false, ":a", 2}, {":,", 0, -1, false, ":,", 2}, {"--", 0, -1, true, "--", 2}, {"---", 0, -1, false, "---", 3}, {"::", 0, -1, false, ":", 1},
	})
}

// P9: a plain scalar goes on over lines, with lines that are white alone between them.
func TestPlainAtLines(t *testing.T) {
	checkPlains(t, []plainCase{
		{"a\nb", 0, -1, false, "a b", 3}, {"a\nb", 0, -1, true, "a b", 3}, {"a\n b", 0, 0, false, "a b", 4}, {"a \t\n \t b\t", 0, 0, false, "a b", 8},
		{"a\nb\nc", 0, -1, false, "a b c", 5}, {"a\nb\nc\n", 0, -1, true, "a b c", 5}, {"a\n  b\n c\n   d", 0, 0, false, "a b c d", 13},
		{"a\n\nb", 0, -1, false, "a\nb", 4}, {"a\n \t\nb", 0, -1, false, "a\nb", 6}, {"a\n\n\nb", 0, -1, false, "a\n\nb", 5}, {"a\n\n \n\t\nb", 0, -1, true, "a\n\n\nb", 8},
		{"a\nb\n\nc\n\n\nd e\nf", 0, -1, false, "a b\nc\n\nd e f", 14}, {"a\n\nb\n\n", 0, -1, false, "a\nb", 4}, {"a\n\nb \t\n \n", 0, -1, true, "a\nb", 4},
		// The lines that are white alone need no indent.
		{"a\n\n  b", 0, 1, false, "a\nb", 6}, {"a\n \n  b", 0, 1, false, "a\nb", 7}, {"a\n\t\n  b", 0, 1, false, "a\nb", 7},
		// From within a line.
		{"- a\n  b\n- c", 2, 0, false, "a b", 7}, {"k: a\n   b\nl: c", 3, 0, false, "a b", 9}, {"x\n- a\n\n  b\n", 4, 0, false, "a\nb", 10},
		// What would be a sign at the beginning goes on within.
		{"a\n- b", 0, -1, false, "a - b", 5}, {"a\n-", 0, -1, false, "a -", 3}, {"a\n&b *c !d", 0, -1, false, "a &b *c !d", 10}, {"a\n'b' \"c\"", 0, -1, true, "a 'b' \"c\"", 9},
		{"a\n|\n> %\n@ `", 0, -1, false, "a | > % @ `", 11}, {"a\n? b", 0, -1, true, "a ? b", 5}, {"a\n:b", 0, -1, true, "a :b", 4}, {"a\n, b", 0, -1, false, "a , b", 5}, {"a\n:,", 0, -1, false, "a :,", 4},
	})
}

// P9: where a plain scalar doesn't go on.
func TestPlainAtStops(t *testing.T) {
	checkPlains(t, []plainCase{
		// A line that isn't taken up to its end.
		{"a #r\nb", 0, -1, false, "a", 1}, {"a #r\nb", 0, -1, true, "a", 1}, {"a: b\nc", 0, -1, false, "a", 1}, {"a:\nb", 0, -1, false, "a", 1}, {"a:\n\n b", 0, -1, true, "a", 1},
		{"a : \nb", 0, -1, false, "a", 1}, {"a,\nb", 0, -1, true, "a", 1}, {"a ]\nb", 0, -1, true, "a", 1}, {"a\nb #r\nc", 0, -1, false, "a b", 3}, {"a\nb: c\nd", 0, -1, false, "a b", 3}, {"a\nb:\nc", 0, -1, true, "a b", 3}, {"a\nb }\nc", 0, -1, true, "a b", 3},
		// The IndentAt of the next line is below n, n and above it; with flow it isn't asked.
		{"a\n b", 0, 2, false, "a", 1}, {"a\n b", 0, 1, false, "a", 1}, {"a\n b", 0, 0, false, "a b", 4}, {"a\n b", 0, 2, true, "a b", 4}, {"a\n b", 0, 1, true, "a b", 4},
		{"a\nb", 0, 0, false, "a", 1}, {"a\nb", 0, 0, true, "a b", 3}, {"a\n\nb", 0, 0, false, "a", 1}, {"a\n\nb", 0, 0, true, "a\nb", 4}, {"a\n  b\n c", 0, 1, false, "a b", 5}, {"a\n  b\n c", 0, 1, true, "a b c", 8}, {"a\n  b\n\n\n c\n  d", 0, 1, false, "a b", 5},
		// The tab isn't part of the indent.
		{"a\n\tb", 0, 0, false, "a", 1}, {"a\n\tb", 0, -1, false, "a b", 4}, {"a\n \tb", 0, 0, false, "a b", 5}, {"a\n \tb", 0, 1, false, "a", 1}, {"a\n\t b", 0, 0, false, "a", 1}, {"a\n\tb", 0, 7, true, "a b", 4},
		// A mark.
		{"a\n---", 0, -1, false, "a", 1}, {"a\n---\nb", 0, -1, true, "a", 1}, {"a\n...", 0, -1, false, "a", 1}, {"a\n... b", 0, -1, true, "a", 1}, {"a\n\n---\tb", 0, -1, false, "a", 1}, {"a\nb\n...\nc", 0, -1, false, "a b", 3},
		{"a\n ---", 0, -1, false, "a ---", 6}, {"a\n ...", 0, -1, true, "a ...", 6}, {"a\n---b", 0, -1, false, "a ---b", 6}, {"a\n....", 0, -1, false, "a ....", 6}, {"---\n b", 0, -1, false, "--- b", 6},
		// A number sign, a colon and a gap, a flow sign at the beginning.
		{"a\n#r\nb", 0, -1, false, "a", 1}, {"a\n#r", 0, -1, true, "a", 1}, {"a\n  #r\n  b", 0, 0, false, "a", 1}, {"a\n\n\t#r", 0, -1, false, "a", 1}, {"a\nb#r\nc", 0, -1, false, "a b#r c", 7},
		{"a\n: b", 0, -1, false, "a", 1}, {"a\n:", 0, -1, true, "a", 1}, {"a\n :\n b", 0, -1, false, "a", 1}, {"a\n:\tb", 0, -1, true, "a", 1}, {"a\n:]", 0, -1, true, "a", 1}, {"a\n:]", 0, -1, false, "a :]", 4},
		{"a\n, b", 0, -1, true, "a", 1}, {"a\n[b", 0, -1, true, "a", 1}, {"a\n  ]", 0, -1, true, "a", 1}, {"a\n\n{", 0, -1, true, "a", 1}, {"a\nb\n}", 0, -1, true, "a b", 3}, {"a\n]", 0, -1, false, "a ]", 3},
		// Lines that are white alone with nothing behind them, or with what isn't taken.
		{"a\nb \n\n \t\n", 0, -1, false, "a b", 3}, {"a\n\n\n---\n", 0, -1, false, "a", 1}, {"a \t\n\n b: c", 0, 3, false, "a", 1}, {"a\n\n #r\n b", 0, -1, true, "a", 1},
	})
}

// P9: nothing where no plain scalar may begin.
func TestPlainAtNothing(t *testing.T) {
	for _, c := range []struct {
		s         string
		p         int
		flow, out bool // whether it is asked with flow, without it
	}{
		{"", 0, true, true}, {"", lowest, true, true}, {"", highest, true, true}, {"a", 1, true, true}, {"a", 2, true, true}, {"a", highest, true, true}, {"a\nb", 3, true, true},
		{" a", 0, true, true}, {"\ta", 0, true, true}, {"\na", 0, true, true}, {"a b", 1, true, true}, {"a\nb", 1, true, true}, {"# a", 0, true, true}, {"#a", lowest, true, true},
		{", a", 0, true, true}, {"[a]", 0, true, true}, {"]", 0, true, true}, {"{a", 0, true, true}, {"}", 0, true, true}, {"&a b", 0, true, true}, {"*a", 0, true, true}, {"!a b", 0, true, true},
		{"|\n a", 0, true, true}, {">\n a", 0, true, true}, {"'a'", 0, true, true}, {"\"a\"", 0, true, true}, {"%a", 0, true, true}, {"@a", 0, true, true}, {"`a", 0, true, true},
		{"- a", 0, true, true}, {"?\ta", 0, true, true}, {":\na", 0, true, true}, {"-", 0, true, true}, {"a:", 1, true, true}, {"-, a", 0, true, false}, {"?]", 0, true, false}, {":{", 0, true, false},
	} {
		for _, n := range []int{lowest, -1, 0, 1, highest} {
			if got := plainAt(c.s, c.p, n, true); c.flow && got != (wordAt{}) {
				t.Errorf("PlainAt(%q, %d, %d, true) = %+v", c.s, c.p, n, got)
			}
			if got := plainAt(c.s, c.p, n, false); c.out && got != (wordAt{}) {
				t.Errorf("PlainAt(%q, %d, %d, false) = %+v", c.s, c.p, n, got)
			}
		}
	}
}

// P9: wrong places and columns, and texts that aren't clean.
func TestPlainAtWrongInputs(t *testing.T) {
	const s = "a\nb\n c\n    d"
	checkPlains(t, []plainCase{
		{s, -1, -1, false, "a b c d", 12}, {s, lowest, -1, false, "a b c d", 12}, {s, lowest, lowest, true, "a b c d", 12}, {s, -7, 0, false, "a", 1},
		{s, 0, lowest, false, "a b c d", 12}, {s, 0, lowest + 1, false, "a b c d", 12}, {s, 0, -2, false, "a b c d", 12}, {s, 0, highest, false, "a", 1}, {s, 0, highest, true, "a b c d", 12}, {s, 0, highest - 1, false, "a", 1},
		{s, 5, 3, false, "c d", 12}, {s, 5, 4, false, "c", 6}, {s, 11, highest, false, "d", 12}, {s, 11, lowest, false, "d", 12},
		{"\x00", 0, -1, false, "\x00", 1}, {"a\x00\n\x00b", 0, -1, false, "a\x00 \x00b", 5}, {"\xff\xc3", 0, -1, true, "\xff\xc3", 2}, {"é", 1, -1, false, "\xa9", 2}, {"\xc3\n\n\xa9", 0, -1, false, "\xc3\n\xa9", 4},
		{"a\r\nb\r\n", 0, -1, false, "a\r b\r", 5}, {"a\n\r\nb", 0, -1, false, "a \r b", 5}, {"a\n\x00\nb", 0, -1, true, "a \x00 b", 5}, {"a\n\u00a0\nb", 0, -1, false, "a \u00a0 b", 6}, {"a:\xff", 0, -1, true, "a:\xff", 3}, {"a\x00#b", 0, -1, false, "a\x00#b", 4},
	})
}

// P5: a plain word is read as it was written, alone and within what may stand around it.
func TestPlainWordsAreReadAsWritten(t *testing.T) {
	asked := 0
	eachText([]string{"a", "Z9", "-", ":", "#", "?", "é", "'", "!", "😀", "~", "\x7f\xff"}, 4, func(word string) {
		if word == "" || strings.HasSuffix(word, ":") || strings.ContainsAny(word[:1], "#'!") || strings.Contains("-?", word) {
			return
		}
		asked++
		for _, c := range []struct {
			ahead, behind string
			n             int
			flow          bool
		}{
			{"", "", -1, false}, {"", "", -1, true}, {"- ", "\n- b", 0, false}, {"k: ", " # r", 0, false}, {"", ": v", -1, false}, {"", " : v", -1, false}, {"  ", " \t\n", 1, false},
			{"[", "]", -1, true}, {"[b, ", " , b]", -1, true}, {"{", ": v}", -1, true}, {"{k: ", "}", -1, true}, {"--- ", "\n...\n", -1, false},
		} {
			want := wordAt{word, len(c.ahead) + len(word), true}
			if got := plainAt(c.ahead+word+c.behind, len(c.ahead), c.n, c.flow); got != want {
				t.Fatalf("%q between %q and %q is read as %+v", word, c.ahead, c.behind, got)
			}
		}
	})
	if asked < 10000 {
		t.Error("too few words were asked:", asked)
	}
}

// P5: words on one line keep the white between them; words on lines differ in a blank for each break alone.
func TestPlainLinesDifferInBlanksForBreaks(t *testing.T) {
	eachList([]string{"a", "b:c", "d#", "-", "é  e\tf"}, 5, func(l []string) {
		if len(l) == 0 || l[0] == "-" {
			return
		}
		one := strings.Join(l, " ")
		for _, s := range []string{one, strings.Join(l, "\n"), strings.Join(l, "\n  "), strings.Join(l, " \n")} {
			want := wordAt{one, len(s), true}
			if got := plainAt(s, 0, -1, false); got != want {
				t.Fatalf("%q is read as %+v", s, got)
			}
		}
		wide := strings.Join(l, " \t ")
		if got := plainAt(wide, 0, -1, true); got.text != wide {
			t.Fatalf("%q is read as %+v", wide, got)
		}
	})
}

// P9: what the three functions say of one place fits together.
func TestPlainsFitTogether(t *testing.T) {
	eachText([]string{"a", " ", "\n", "#", ":", ",", "-"}, 5, func(s string) {
		for p := range len(s) {
			for _, flow := range []bool{false, true} {
				first, end := impl.PlainFirst(s, p, flow), impl.PlainEnd(s, p, flow)
				if first && end == p {
					t.Fatalf("%q at %d, flow %v: a plain scalar begins, but takes nothing", s, p, flow)
				}
				got := plainAt(s, p, highest, false)
				if !flow && first && got != (wordAt{s[p:end], end, true}) {
					t.Fatalf("%q at %d: with no line deep enough it is %+v", s, p, got)
				}
				got = plainAt(s, p, -1, flow)
				if got.ok != first || first && (!strings.HasPrefix(got.text, s[p:end]) || got.end < end || impl.PlainEnd(s, got.end-1, flow) != got.end) {
					t.Fatalf("%q at %d, flow %v: %+v", s, p, flow, got)
				}
			}
		}
	})
}

// Chapter 1: what a call answers hangs on its arguments alone.
func TestPlainsKeepNothing(t *testing.T) {
	for range 3 {
		checkPlains(t, []plainCase{
			{"one\n  two\n\n  three # r\n  four", 0, 0, false, "one two\nthree", 18}, {"x", 0, 0, true, "x", 1}, {"a\n\n\nb", 0, -1, false, "a\n\nb", 5}, {"a\nb", 0, 0, false, "a", 1},
		})
		if plainAt("# a", 0, 0, false) != (wordAt{}) {
			t.Error("a remark is read as a plain scalar")
		}
	}
}

// Every call ends, in time, also for great texts.
func TestGreatPlains(t *testing.T) {
	const many = 300000
	for _, c := range []struct{ s, text string }{
		{strings.Repeat("a", many), strings.Repeat("a", many)},
		{"a" + strings.Repeat(" ", many), "a"},
		{"a" + strings.Repeat("\n", many), "a"},
		{"a" + strings.Repeat("\n", many) + "b", "a" + strings.Repeat("\n", many-1) + "b"},
		{"a" + strings.Repeat("\n ", many) + "#", "a"},
		{strings.Repeat("a\n", many), strings.Repeat("a ", many)[:2*many-1]},
		{strings.Repeat("a\n\n", many), strings.Repeat("a\n", many)[:2*many-1]},
		{"a" + strings.Repeat(":", many), "a" + strings.Repeat(":", many-1)},
		{"a" + strings.Repeat("#", many), "a" + strings.Repeat("#", many)},
		{"a" + strings.Repeat(" ", many) + "b", "a" + strings.Repeat(" ", many) + "b"},
		{"a" + strings.Repeat(" b", many), "a" + strings.Repeat(" b", many)},
	} {
		for _, flow := range []bool{false, true} {
			if got := plainAt(c.s, 0, -1, flow); got.text != c.text || !got.ok {
				t.Errorf("%q .. of %d bytes is read as a text of %d", c.s[:3], len(c.s), len(got.text))
			}
		}
	}
}
