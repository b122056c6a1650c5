package tests

import (
	"fmt"
	"regexp"
	"strconv"
	"strings"
	"testing"

	"loop.example/g00666/impl"
)

// quoteAt is what SingleAt and DoubleAt answer.
type quoteAt struct {
	text        string
	place, code int
}

func singleAt(s string, p int) quoteAt {
	text, place, code := impl.SingleAt(s, p)
	return quoteAt{text, place, code}
}

func doubleAt(s string, p int) quoteAt {
	text, place, code := impl.DoubleAt(s, p)
	return quoteAt{text, place, code}
}

// escapeAt is what EscapeAt answers.
type escapeAt struct {
	text string
	end  int
}

func escapeOf(s string, p int) escapeAt {
	text, end := impl.EscapeAt(s, p)
	return escapeAt{text, end}
}

// escapeSigns are the signs that stand for a number by themselves.
var escapeSigns = map[byte]int{
	'0': 0, 'a': 7, 'b': 8, 't': 9, '\t': 9, 'n': 10, 'v': 11, 'f': 12, 'r': 13, 'e': 27, ' ': 32, '"': 34, '/': 47, '\\': 92,
	'N': 133, '_': 160, 'L': 8232, 'P': 8233,
}

// The escapes by patterns, which also leave out the numbers that are no runes.
const (
	hexPattern    = `[0-9a-fA-F]`
	lowPattern    = `(?:[0-9a-cefA-CEF]` + hexPattern + `{3}|[dD][0-7]` + hexPattern + `{2})`
	wholePattern  = `00(?:10` + hexPattern + `{4}|0[1-9a-fA-F]` + hexPattern + `{4}|00` + lowPattern + `)`
	escapePattern = `\\(?:[0abt\tnvfre "/\\N_LP]|x` + hexPattern + `{2}|u` + lowPattern + `|U` + wholePattern + `)`
)

var (
	escapeRule     = regexp.MustCompile(`^` + escapePattern)
	singleBodyRule = regexp.MustCompile(`^'((?:[^']|'')*)`)
	doubleBodyRule = regexp.MustCompile(`^"((?:[^"\\]|\\\n|` + escapePattern + `)*)`)
	singlePartRule = regexp.MustCompile(`''|[^']`)
	doublePartRule = regexp.MustCompile(`\\\n|` + escapePattern + `|[^\\]`)
)

func escapeByRule(s string, p int) escapeAt {
	p = placeByRule(s, p)
	m := escapeRule.FindString(s[p:])
	if m == "" {
		return escapeAt{}
	}
	n, ok := escapeSigns[m[1]]
	if !ok {
		v, err := strconv.ParseInt(m[2:], 16, 64)
		if err != nil {
			panic(err)
		}
		n = int(v)
	}
	return escapeAt{bytesByRule(n), p + len(m)}
}

// bodyByRule tells what stands between the quotes and where it ends, or the fault that is met first.
func bodyByRule(s string, p int, rule *regexp.Regexp) (string, quoteAt) {
	m := rule.FindStringSubmatch(s[p:])
	if m == nil {
		return "", quoteAt{"", p, 10}
	}
	end := p + len(m[0])
	for q := p + 1; q < end; q++ {
		if markByRule(s, q) != 0 {
			return "", quoteAt{"", q, 4}
		}
	}
	switch {
	case end == len(s):
		return "", quoteAt{"", end, 3}
	case s[end] == '\\':
		return "", quoteAt{"", end, 5}
	}
	return m[1], quoteAt{"", end + 1, 0}
}

// linesByRule takes off the parts of a line that are white, and then tells what the others stand for.
func linesByRule(lines [][]string, told func(string) string) string {
	white := func(part string) bool { return part == " " || part == "\t" }
	var l []impl.Piece
	for i, line := range lines {
		glue := len(line) > 0 && line[len(line)-1] == "\\\n"
		if glue {
			line = line[:len(line)-1]
		}
		for i > 0 && len(line) > 0 && white(line[0]) {
			line = line[1:]
		}
		for i < len(lines)-1 && !glue && len(line) > 0 && white(line[len(line)-1]) {
			line = line[:len(line)-1]
		}
		text := ""
		for _, part := range line {
			text += told(part)
		}
		l = append(l, impl.Piece{Text: text, Glue: glue})
	}
	return flowByRule(l)
}

// partsByRule cuts a body into its lines, and these into parts; a line that ends with Glue has the sign of it as its last part.
func partsByRule(body string, rule *regexp.Regexp) [][]string {
	lines := [][]string{nil}
	for _, part := range rule.FindAllString(body, -1) {
		last := len(lines) - 1
		if part != "\n" {
			lines[last] = append(lines[last], part)
		}
		if strings.HasSuffix(part, "\n") {
			lines = append(lines, nil)
		}
	}
	return lines
}

func singleByRule(s string, p int) quoteAt {
	body, out := bodyByRule(s, placeByRule(s, p), singleBodyRule)
	out.text = linesByRule(partsByRule(body, singlePartRule), func(part string) string {
		if part == "''" {
			return "'"
		}
		return part
	})
	return out
}

func doubleByRule(s string, p int) quoteAt {
	body, out := bodyByRule(s, placeByRule(s, p), doubleBodyRule)
	out.text = linesByRule(partsByRule(body, doublePartRule), func(part string) string {
		if x := escapeByRule(part, 0); x.text != "" {
			return x.text
		}
		return part
	})
	return out
}

// P9: the three functions answer by their rules, at every place of many texts and outside of them.
func TestQuotesOfManyTexts(t *testing.T) {
	check := func(s string) {
		for p := -1; p <= len(s)+1; p++ {
			if got, want := singleAt(s, p), singleByRule(s, p); got != want {
				t.Fatalf("SingleAt(%q, %d) = %+v, not %+v", s, p, got, want)
			}
			if got, want := doubleAt(s, p), doubleByRule(s, p); got != want {
				t.Fatalf("DoubleAt(%q, %d) = %+v, not %+v", s, p, got, want)
			}
			if got, want := escapeOf(s, p), escapeByRule(s, p); got != want {
				t.Fatalf("EscapeAt(%q, %d) = %+v, not %+v", s, p, got, want)
			}
		}
	}
	inQuotes := func(body string) {
		check("'" + body + "'")
		check(`"` + body + `"`)
	}
	eachText([]string{"a", " ", "\n", "'", `"`, `\`}, 5, check)
	eachText([]string{"a", " ", "\t", "\n", "'", "''", "\n---", "\n..."}, 4, inQuotes)
	eachText([]string{"a", " ", "\n", `\`, "\\\n", `\ `, `\t`, `\n`, `\"`, "\n--- "}, 4, inQuotes)
	eachText([]string{`\x`, `\u`, `\U`, "0", "4", "1f", "Ab", "d8", "0010", "0000", "g"}, 4, inQuotes)
	eachText([]string{"a", " ", "\n", "\r", "\x00", "\xff", "\xc3", "é", "\u00a0", "\u0085", "\v"}, 3, inQuotes)
}

// quoteCase is a text, a place of it, and what SingleAt or DoubleAt must answer there.
type quoteCase struct {
	s           string
	p           int
	text        string
	place, code int
}

func checkQuotes(t *testing.T, read func(string, int) quoteAt, l []quoteCase) {
	t.Helper()
	for _, c := range l {
		want := quoteAt{c.text, c.place, c.code}
		if got := read(c.s, c.p); got != want {
			t.Errorf("%q at %d is %+v, not %+v", c.s, c.p, got, want)
		}
	}
}

// checkBoth asks what both kinds of quotes have in common; the cases are written with single ones.
func checkBoth(t *testing.T, l []quoteCase) {
	t.Helper()
	checkQuotes(t, singleAt, l)
	turn := strings.NewReplacer("'", `"`, `"`, "'")
	var double []quoteCase
	for _, c := range l {
		c.s, c.text = turn.Replace(c.s), turn.Replace(c.text)
		double = append(double, c)
	}
	checkQuotes(t, doubleAt, double)
}

// P9: one line in quotes, at the beginning of a line and within one.
func TestQuotesOfOneLine(t *testing.T) {
	checkBoth(t, []quoteCase{
		{"''", 0, "", 2, 0}, {"'' x", 0, "", 2, 0}, {"''\n", 0, "", 2, 0}, {"'a'", 0, "a", 3, 0}, {"'a b' c", 0, "a b", 5, 0}, {"'a'b'", 0, "a", 3, 0},
		{"' a '", 0, " a ", 5, 0}, {"'\ta\t '", 0, "\ta\t ", 6, 0}, {"' '", 0, " ", 3, 0}, {"' \t '", 0, " \t ", 5, 0}, {"'a  \t b'", 0, "a  \t b", 8, 0},
		{"k: 'a'", 3, "a", 6, 0}, {"k:\n'a'\n", 3, "a", 6, 0}, {"x\n  'a' #r", 4, "a", 7, 0}, {"['a','b']", 1, "a", 4, 0}, {"['a','b']", 5, "b", 8, 0}, {"'a','b'", 2, ",", 5, 0},
		{"'\"'", 0, "\"", 3, 0}, {"'a\"b\"'", 0, "a\"b\"", 6, 0}, {"'#a: b, [c] {d} &e *f !g | > % @ ` - ?'", 0, "#a: b, [c] {d} &e *f !g | > % @ ` - ?", 39, 0}, {"'a #b'", 0, "a #b", 6, 0}, {"'é😀'", 0, "é😀", 8, 0},
	})
}

// P9: lines in quotes are folded, and lose the white at the ends that lie within.
func TestQuotesOfManyLines(t *testing.T) {
	checkBoth(t, []quoteCase{
		{"'a\nb'", 0, "a b", 5, 0}, {"'a\nb\nc' d", 0, "a b c", 7, 0}, {"'a\n\nb'", 0, "a\nb", 6, 0}, {"'a\n\n\nb'", 0, "a\n\nb", 7, 0}, {"'a\nb\n\nc\n\n\nd e\nf'", 0, "a b\nc\n\nd e f", 16, 0},
		{"'a\n \t\nb'", 0, "a\nb", 8, 0}, {"'a\n \n\t\n\nb'", 0, "a\n\n\nb", 10, 0},
		// White at the beginning and at the end of the first, of a middle and of the last line.
		{"' a\nb'", 0, " a b", 6, 0}, {"'a \t\nb'", 0, "a b", 7, 0}, {"'a\n \tb'", 0, "a b", 7, 0}, {"'a\nb \t'", 0, "a b \t", 7, 0}, {"'a\n\tb \nc'", 0, "a b c", 9, 0}, {"' a \n b \n c '", 0, " a b c ", 13, 0}, {"'\ta\t\n\tb\t\n\tc\t'", 0, "\ta b c\t", 13, 0},
		{"'a b \n c  d\t\n e'", 0, "a b c  d e", 16, 0},
		// The first and the last line are white alone.
		{"'  \na'", 0, " a", 6, 0}, {"'\t\n\na'", 0, "\na", 6, 0}, {"'a\n  '", 0, "a ", 6, 0}, {"'a\n\n \t'", 0, "a\n", 7, 0}, {"' \n '", 0, " ", 5, 0}, {"' \n \n '", 0, "\n", 7, 0},
		// A break directly behind the opening quote, and directly ahead of the closing one.
		{"'\na'", 0, " a", 4, 0}, {"'\n\na'", 0, "\na", 5, 0}, {"'a\n'", 0, "a ", 4, 0}, {"'a\n\n'", 0, "a\n", 5, 0}, {"'\n'", 0, " ", 3, 0}, {"'\n\n'", 0, "\n", 4, 0}, {"'\n\n\n'", 0, "\n\n", 5, 0}, {"'\na\n'", 0, " a ", 5, 0},
		// The column doesn't count, nor what stands ahead of the quote.
		{"k:\n    'a\nb'", 7, "a b", 12, 0}, {"- 'a\n\n  b'\n- c", 2, "a\nb", 10, 0}, {"'x'\n'a\nb'", 4, "a b", 9, 0}, {"'a\n#b'", 0, "a #b", 6, 0}, {"'a\n- b: c'", 0, "a - b: c", 10, 0},
	})
}

// P9: where there is no such quote at the place, also where the other kind is there.
func TestNoQuoteThere(t *testing.T) {
	checkBoth(t, []quoteCase{
		{"a", 0, "", 0, 10}, {"\"a\"", 0, "", 0, 10}, {"\"a\"", 2, "", 2, 10}, {"\"'a'\"", 0, "", 0, 10}, {"'a'", 1, "", 1, 10}, {" 'a'", 0, "", 0, 10}, {"\n'a'", 0, "", 0, 10}, {"\\'a'", 0, "", 0, 10}, {"`a`", 0, "", 0, 10},
		{"---\n'a'", 0, "", 0, 10}, {"--- 'a'", 0, "", 0, 10}, {"", 0, "", 0, 10}, {"'a'", 3, "", 3, 10}, {"'a'\n", 3, "", 3, 10}, {"\x00", 0, "", 0, 10}, {"\xff'", 0, "", 0, 10},
	})
}

// P9: the text ends first, with and without a break in it.
func TestQuotesThatDontEnd(t *testing.T) {
	checkBoth(t, []quoteCase{
		{"'", 0, "", 1, 3}, {"'a", 0, "", 2, 3}, {"'a b ", 0, "", 5, 3}, {"'a\n", 0, "", 3, 3}, {"'a\nb", 0, "", 4, 3}, {"'\n\n", 0, "", 3, 3}, {"'a\n  ", 0, "", 5, 3}, {"a 'b", 2, "", 4, 3}, {"'a'", 2, "", 3, 3}, {"'a\"", 0, "", 3, 3}, {"'a'\n'b", 4, "", 6, 3},
		{"'a\n---b", 0, "", 7, 3}, {"'a\n ---", 0, "", 7, 3},
	})
}

// P9: a mark at the beginning of a line is a fault, wherever the scalar would end.
func TestMarksInQuotes(t *testing.T) {
	checkBoth(t, []quoteCase{
		// A blank, a tab, a break and the end of the text behind it.
		{"'a\n--- '", 0, "", 3, 4}, {"'a\n... '", 0, "", 3, 4}, {"'a\n---\t'", 0, "", 3, 4}, {"'a\n...\t'", 0, "", 3, 4}, {"'a\n---\n'", 0, "", 3, 4}, {"'a\n...\n'", 0, "", 3, 4}, {"'a\n---", 0, "", 3, 4}, {"'a\n...", 0, "", 3, 4},
		// Another byte behind it: no mark.
		{"'a\n---'", 0, "a ---", 7, 0}, {"'a\n...'", 0, "a ...", 7, 0}, {"'a\n----'", 0, "a ----", 8, 0}, {"'a\n....'", 0, "a ....", 8, 0}, {"'a\n---b '", 0, "a ---b ", 9, 0}, {"'a\n...\r'", 0, "a ...\r", 8, 0}, {"'a\n-- '", 0, "a -- ", 7, 0}, {"'a\n--. '", 0, "a --. ", 8, 0},
		// Not at the beginning of a line.
		{"'--- '", 0, "--- ", 6, 0}, {"'...\n'", 0, "... ", 6, 0}, {"'a\n --- '", 0, "a --- ", 9, 0}, {"'a\n\t... '", 0, "a ... ", 9, 0}, {"'a --- b\n... '", 0, "", 9, 4}, {"'a ... \nb'", 0, "a ... b", 10, 0},
		// Behind lines that are empty; the first of several; ahead of where the text ends; behind the closing quote.
		{"'\n--- '", 0, "", 2, 4}, {"'a\n\n \n---\n'", 0, "", 6, 4}, {"'a\n---\n... '", 0, "", 3, 4}, {"'a\n... b\n--- '", 0, "", 3, 4}, {"'a\n--- b", 0, "", 3, 4}, {"'a\n...\n", 0, "", 3, 4}, {"'a'\n--- '", 0, "a", 3, 0}, {"'a\nb'\n...\n", 0, "a b", 5, 0},
		// A mark ahead of the opening quote is none of the scalar's.
		{"--- 'a'", 4, "a", 7, 0}, {"---\n'a\nb'", 4, "a b", 9, 0}, {"--- 'a\n--- '", 4, "", 7, 4}, {"---\n'a", 4, "", 6, 3},
	})
}

// P9: places outside of the text, the empty text, and texts that aren't clean.
func TestQuotesWrongInputs(t *testing.T) {
	checkBoth(t, []quoteCase{
		{"'a'", -1, "a", 3, 0}, {"'a'", lowest, "a", 3, 0}, {"a'b'", -1, "", 0, 10}, {"a'b'", lowest, "", 0, 10}, {"'a", -7, "", 2, 3}, {"'a\n---", lowest, "", 3, 4},
		{"'a'", 3, "", 3, 10}, {"'a'", 4, "", 3, 10}, {"'a'", highest, "", 3, 10}, {"'a'", highest - 1, "", 3, 10}, {"", 0, "", 0, 10}, {"", -1, "", 0, 10}, {"", 1, "", 0, 10}, {"", lowest, "", 0, 10}, {"", highest, "", 0, 10},
		{"'\x00'", 0, "\x00", 3, 0}, {"'a\x00\n\x00b'", 0, "a\x00 \x00b", 7, 0}, {"'\xff\xc3'", 0, "\xff\xc3", 4, 0}, {"'\xc3\n\n\xa9'", 0, "\xc3\n\xa9", 6, 0}, {"'a\n\x00\nb'", 0, "a \x00 b", 7, 0}, {"'\x00", 0, "", 2, 3}, {"'\xff", 0, "", 2, 3}, {"'\xe2\x80'", 0, "\xe2\x80", 4, 0},
		{"'a\r\nb'", 0, "a\r b", 6, 0}, {"'a\n\r\nb'", 0, "a \r b", 7, 0}, {"'a\u00a0\n\u00a0b'", 0, "a\u00a0 \u00a0b", 9, 0}, {"'a\v\n\fb'", 0, "a\v \fb", 7, 0}, {"'\u0085'", 0, "\u0085", 4, 0}, {"'a\n---\x00'", 0, "a ---\x00", 8, 0}, {"'a\n---\xff'", 0, "a ---\xff", 8, 0},
	})
}

// P9: two single quotes, one behind the other, stand for one; a backslash stands for itself.
func TestSingleAtTwoQuotes(t *testing.T) {
	checkQuotes(t, singleAt, []quoteCase{
		{"'''a'", 0, "'a", 5, 0}, {"'a''b'", 0, "a'b", 6, 0}, {"'a'''", 0, "a'", 5, 0}, {"'a''''b'", 0, "a''b", 8, 0}, {"'it''s' x", 0, "it's", 7, 0}, {"'a' 'b'", 0, "a", 3, 0}, {"'' ''", 0, "", 2, 0},
		// Three and four, alone and with others ahead or behind.
		{"'''", 0, "", 3, 3}, {"''''", 0, "'", 4, 0}, {"'''''", 0, "", 5, 3}, {"''''''", 0, "''", 6, 0}, {"'a''", 0, "", 4, 3}, {"'a''' b", 0, "a'", 5, 0}, {"'a''''", 0, "", 6, 3}, {"'a'''' b'", 0, "a'' b", 9, 0}, {"''' b", 0, "", 5, 3}, {"''''b", 0, "'", 4, 0}, {"'''", 1, "", 3, 0}, {"''''", 1, "", 4, 3},
		// At the ends of lines.
		{"'a''\n''b'", 0, "a' 'b", 9, 0}, {"'a'' \n ''b'", 0, "a' 'b", 11, 0}, {"'''\n'''", 0, "' '", 7, 0}, {"'a'\n'b'", 0, "a", 3, 0}, {"'a\n'' '", 0, "a ' ", 7, 0}, {"'a\n---'''", 0, "a ---'", 9, 0}, {"'''\n--- '", 0, "", 4, 4},
		// Nothing but two quotes has a meaning of its own.
		{`'\'`, 0, `\`, 3, 0}, {`'a\n'`, 0, `a\n`, 5, 0}, {`'\''`, 0, "", 4, 3}, {`'\'''`, 0, `\'`, 5, 0}, {"'a\\\nb'", 0, `a\ b`, 6, 0}, {"'a \\\n b'", 0, `a \ b`, 8, 0}, {`'"'`, 0, `"`, 3, 0}, {`'""'`, 0, `""`, 4, 0}, {`'\q'`, 0, `\q`, 4, 0},
	})
}

// P9: two double quotes are two quotes, and a single one is a byte as any other.
func TestDoubleAtQuotes(t *testing.T) {
	checkQuotes(t, doubleAt, []quoteCase{
		{`"a""b"`, 0, "a", 3, 0}, {`""""`, 0, "", 2, 0}, {`""""`, 1, "", 3, 0}, {`"""`, 0, "", 2, 0}, {`"a"""`, 0, "a", 3, 0},
		{`"'"`, 0, "'", 3, 0}, {`"''"`, 0, "''", 4, 0}, {`"it's"`, 0, "it's", 6, 0}, {`'a'`, 0, "", 0, 10}, {`"a'`, 0, "", 3, 3},
		// An escaped quote, an escaped backslash ahead of the closing quote.
		{`"\""`, 0, `"`, 4, 0}, {`"a\"b"`, 0, `a"b`, 6, 0}, {`"\"`, 0, "", 3, 3}, {`"a\\"`, 0, `a\`, 5, 0}, {`"\\"`, 0, `\`, 4, 0}, {`"\\\""`, 0, `\"`, 6, 0}, {`"\\\\"`, 0, `\\`, 6, 0}, {`"\\\"`, 0, "", 5, 3}, {`"a\\" "`, 0, `a\`, 5, 0}, {`"\"\""`, 0, `""`, 6, 0},
		{`"\\n"`, 0, `\n`, 5, 0}, {`"\\x41"`, 0, `\x41`, 7, 0},
	})
}

// P9: an escape stands for what it says; what it makes isn't taken off.
func TestDoubleAtEscapes(t *testing.T) {
	checkQuotes(t, doubleAt, []quoteCase{
		{`"\x41\u00e9\U0001F600"`, 0, "Aé😀", 22, 0}, {`"a\tb\nc\0"`, 0, "a\tb\nc\x00", 11, 0}, {`"\x41B"`, 0, "AB", 7, 0}, {`"\u00410"`, 0, "A0", 9, 0}, {`k: "\/"`, 3, "/", 7, 0},
		// White and breaks that an escape makes, at the end of a line.
		{"\"a\\t\nb\"", 0, "a\t b", 7, 0}, {"\"a\\t \nb\"", 0, "a\t b", 8, 0}, {"\"a \\t \t\nb\"", 0, "a \t b", 10, 0}, {"\"a\\ \nb\"", 0, "a  b", 7, 0}, {"\"a\\  \nb\"", 0, "a  b", 8, 0}, {"\"a \\ \nb\"", 0, "a   b", 8, 0}, {"\"a\\\t\nb\"", 0, "a\t b", 7, 0}, {"\"a\\\t\t\nb\"", 0, "a\t b", 8, 0},
		{"\"a\\n\nb\"", 0, "a\n b", 7, 0}, {"\"a\\n \n\nb\"", 0, "a\n\nb", 9, 0}, {"\"a\\x20 \nb\"", 0, "a  b", 10, 0}, {"\"a\\u0009 \nb\"", 0, "a\t b", 12, 0}, {"\"ab\\t\nc  \nd\"", 0, "ab\t c d", 12, 0},
		// At the beginning of one.
		{"\"a\n\\tb\"", 0, "a \tb", 7, 0}, {"\"a\n \\t b\"", 0, "a \t b", 9, 0}, {"\"a\n\t\\  b\"", 0, "a   b", 9, 0}, {"\"a\n\\\tb\"", 0, "a \tb", 7, 0}, {"\"a\n \\n b\"", 0, "a \n b", 9, 0}, {"\"a\n\\x20b\"", 0, "a  b", 9, 0},
		// A line of escapes that make white or a break isn't empty.
		{"\"a\n\\ \nb\"", 0, "a   b", 8, 0}, {"\"a\n \\t \nb\"", 0, "a \t b", 10, 0}, {"\"a\n\\n\nb\"", 0, "a \n b", 8, 0}, {"\"\\ \n\\ \"", 0, "   ", 7, 0}, {"\"a\n\n\\t\n\nb\"", 0, "a\n\t\nb", 10, 0},
		// No mark is made by escapes, and none hidden.
		{"\"a\n\\x2d-- \"", 0, "a --- ", 11, 0}, {"\"a\n--\\x2d \"", 0, "a --- ", 11, 0}, {"\"a\n---\\ \"", 0, "a --- ", 9, 0}, {"\"a\n---\\n\"", 0, "a ---\n", 9, 0}, {"\"a\\n--- \"", 0, "a\n--- ", 9, 0}, {"\"a\\n\n--- \"", 0, "", 5, 4},
	})
}

// P9: a backslash directly ahead of a break ends its line with Glue.
func TestDoubleAtGlue(t *testing.T) {
	checkQuotes(t, doubleAt, []quoteCase{
		{"\"a\\\nb\"", 0, "ab", 6, 0}, {"\"a\\\n  b\"", 0, "ab", 8, 0}, {"\"a\\\n\\ b\"", 0, "a b", 8, 0}, {"\"a\\\nb\\\nc\"", 0, "abc", 9, 0}, {"\"a\\\nb\nc\"", 0, "ab c", 8, 0}, {"\"a\nb\\\nc\"", 0, "a bc", 8, 0},
		// White ahead of it stays: on the first line, and behind what a further line has.
		{"\"a \\\nb\"", 0, "a b", 7, 0}, {"\"a \t\\\n b\"", 0, "a \tb", 9, 0}, {"\" \\\nb\"", 0, " b", 6, 0}, {"\"a\n b \\\n c\"", 0, "a b c", 11, 0}, {"\"a\\t \\\nb\"", 0, "a\t b", 9, 0}, {"\"a\\\n \tb\t\\\n c\"", 0, "ab\tc", 13, 0},
		// White at the beginning of a further line goes, whatever stands behind it.
		{"\"a\\\n \\\nb\"", 0, "ab", 9, 0}, {"\"a\n \t\\\nb\"", 0, "a b", 9, 0}, {"\"a\n\n  \\\nb\"", 0, "a\nb", 10, 0},
		// As the first thing of a line, and twice in a row.
		{"\"\\\na\"", 0, "a", 5, 0}, {"\"\\\n\"", 0, "", 4, 0}, {"\"a\n\\\nb\"", 0, "a b", 7, 0}, {"\"a\n\n\\\nb\"", 0, "a\nb", 8, 0}, {"\"a\\\n\\\nb\"", 0, "ab", 8, 0}, {"\"\\\n\\\n\\\n\"", 0, "", 8, 0}, {"\"a\\\n\\\n\nb\"", 0, "a\nb", 9, 0},
		// Lines that are empty or white alone behind it, and the last line.
		{"\"a\\\n\nb\"", 0, "a\nb", 7, 0}, {"\"a\\\n \t\nb\"", 0, "a\nb", 9, 0}, {"\"a\\\n\n\nb\"", 0, "a\n\nb", 8, 0}, {"\"a \\\n\n b\"", 0, "a \nb", 9, 0}, {"\"a\\\n\"", 0, "a", 5, 0}, {"\"a\\\n  \"", 0, "a", 7, 0}, {"\"a\\\n\n\"", 0, "a\n", 6, 0}, {"\"a \\\n\"", 0, "a ", 6, 0},
		// A backslash that is itself escaped glues nothing; one with white behind it isn't directly ahead.
		{"\"a\\\\\nb\"", 0, "a\\ b", 7, 0}, {"\"a\\\\\\\nb\"", 0, "a\\b", 8, 0}, {"\"a\\ \nb\"", 0, "a  b", 7, 0}, {"\"a\\\t\nb\"", 0, "a\t b", 7, 0},
		// The faults behind it.
		{"\"a\\\n--- b\"", 0, "", 4, 4}, {"\"a\\\n...", 0, "", 4, 4}, {"\"a\\\n", 0, "", 4, 3}, {"\"a\\\nb", 0, "", 5, 3}, {"\"a\\\n---\"", 0, "a---", 8, 0}, {"\"a\\\n\\\n---\"", 0, "a---", 10, 0}, {"\"a\\\n\\q\"", 0, "", 4, 5},
	})
}

// P9: any other backslash is a fault, in its turn among the others.
func TestDoubleAtNoEscape(t *testing.T) {
	checkQuotes(t, doubleAt, []quoteCase{
		{`"\q"`, 0, "", 1, 5}, {`"a\q"`, 0, "", 2, 5}, {`"a\'b"`, 0, "", 2, 5}, {`"\A\q"`, 0, "", 1, 5}, {`"\t\q"`, 0, "", 3, 5}, {`"\\\q"`, 0, "", 3, 5}, {`x "\q"`, 2, "", 3, 5}, {"\"a\\\r\nb\"", 0, "", 2, 5}, {"\"a\\é\"", 0, "", 2, 5}, {"\"\\\x00\"", 0, "", 1, 5}, {"\"\\\xff\"", 0, "", 1, 5},
		{`"\x4"`, 0, "", 1, 5}, {`"\x4g"`, 0, "", 1, 5}, {`"\u00e"`, 0, "", 1, 5}, {`"\U0001F60"`, 0, "", 1, 5}, {`"\ud800"`, 0, "", 1, 5}, {`"\U00110000"`, 0, "", 1, 5}, {"\"\\x4\n1\"", 0, "", 1, 5}, {"\"\\x\"", 0, "", 1, 5},
		// The text ends behind it, or among its digits: the backslash is met first.
		{`"\`, 0, "", 1, 5}, {`"a\`, 0, "", 2, 5}, {`"\x`, 0, "", 1, 5}, {`"\x4`, 0, "", 1, 5}, {`"\u004`, 0, "", 1, 5}, {`"\q`, 0, "", 1, 5}, {`"\\\`, 0, "", 3, 5},
		// Ahead of a mark and behind one, and behind the closing quote.
		{"\"\\q\n--- \"", 0, "", 1, 5}, {"\"a\n\\q\n...\n", 0, "", 3, 5}, {"\"a\n--- \\q\"", 0, "", 3, 4}, {"\"a\n...\n\\q\"", 0, "", 3, 4}, {"\"a\n---\\q\"", 0, "", 6, 5}, {"\"a\n---\\", 0, "", 6, 5}, {`"a" \q`, 0, "a", 3, 0}, {`"a"\`, 0, "a", 3, 0},
	})
}

// P9: each byte behind a backslash, with as many digits behind it as any sign may ask for, and with nothing.
func TestEveryByteBehindABackslash(t *testing.T) {
	const tail = "00000041"
	for b := range 256 {
		sign := byte(b)
		two := `\` + string([]byte{sign})
		alone, followed := escapeAt{}, escapeAt{}
		if n, ok := escapeSigns[sign]; ok {
			alone = escapeAt{bytesByRule(n), 2}
			followed = alone
		}
		switch sign {
		case 'x':
			followed = escapeAt{"\x00", 4}
		case 'u':
			followed = escapeAt{"\x00", 6}
		case 'U':
			followed = escapeAt{"A", 10}
		}
		if got := escapeOf(two, 0); got != alone {
			t.Errorf("EscapeAt(%q, 0) = %+v, not %+v", two, got, alone)
		}
		if got := escapeOf(two+tail, 0); got != followed {
			t.Errorf("EscapeAt(%q, 0) = %+v, not %+v", two+tail, got, followed)
		}
		read := quoteAt{"", 1, 5}
		if followed.end > 0 {
			read = quoteAt{followed.text + (two + tail)[followed.end:], 12, 0}
		} else if sign == '\n' {
			read = quoteAt{tail, 12, 0}
		}
		if got := doubleAt(`"`+two+tail+`"`, 0); got != read {
			t.Errorf("DoubleAt of %q in quotes = %+v, not %+v", two+tail, got, read)
		}
	}
}

// P9: the edges of EscapeAt by hand.
func TestEscapeAtEdges(t *testing.T) {
	for _, c := range []struct {
		s    string
		p    int
		text string
		end  int
	}{
		{`\0`, 0, "\x00", 2}, {`\a`, 0, "\a", 2}, {`\b`, 0, "\b", 2}, {`\t`, 0, "\t", 2}, {"\\\t", 0, "\t", 2}, {`\n`, 0, "\n", 2}, {`\v`, 0, "\v", 2}, {`\f`, 0, "\f", 2}, {`\r`, 0, "\r", 2}, {`\e`, 0, "\x1b", 2},
		{`\ `, 0, " ", 2}, {`\"`, 0, `"`, 2}, {`\/`, 0, "/", 2}, {`\\`, 0, `\`, 2}, {`\N`, 0, "\u0085", 2}, {`\_`, 0, "\u00a0", 2}, {`\L`, 0, "\u2028", 2}, {`\P`, 0, "\u2029", 2},
		// Signs that aren't named: the great or small ones of others, and some that other languages have.
		{`\A`, 0, "", 0}, {`\B`, 0, "", 0}, {`\T`, 0, "", 0}, {`\l`, 0, "", 0}, {`\p`, 0, "", 0}, {`\E`, 0, "", 0}, {`\X41`, 0, "", 0}, {`\'`, 0, "", 0}, {`\1`, 0, "", 0}, {`\q`, 0, "", 0}, {"\\`", 0, "", 0}, {`\-`, 0, "", 0}, {`\é`, 0, "", 0},
		// No backslash, one as the last byte, and ahead of a break.
		{"n", 0, "", 0}, {"a", 0, "", 0}, {"", 0, "", 0}, {`/n`, 0, "", 0}, {`\`, 0, "", 0}, {`a\`, 1, "", 0}, {"\\\n", 0, "", 0}, {"\\\nn", 0, "", 0}, {"\\\r\n", 0, "", 0}, {`\n`, 1, "", 0}, {`\\`, 1, "", 0}, {`\\n`, 1, "\n", 3}, {`\\n`, 0, `\`, 2},
		// Digits: as many as asked, one less, more than asked, in small and great letters.
		{`\x41`, 0, "A", 4}, {`\x4`, 0, "", 0}, {`\x`, 0, "", 0}, {`\x411`, 0, "A", 4}, {`\x00`, 0, "\x00", 4}, {`\x7f`, 0, "\x7f", 4}, {`\x80`, 0, "\u0080", 4}, {`\xff`, 0, "ÿ", 4}, {`\xFF`, 0, "ÿ", 4}, {`\xfF`, 0, "ÿ", 4}, {`\xaB`, 0, "«", 4},
		{`\u00e9z`, 0, "é", 6}, {`\u00E9`, 0, "é", 6}, {`\u00e`, 0, "", 0}, {`\u`, 0, "", 0}, {`\u0000`, 0, "\x00", 6}, {`\uffff`, 0, "\uffff", 6}, {`\uFEFF`, 0, "\ufeff", 6}, {`\u20ac0`, 0, "€", 6}, {`\uABCD`, 0, "\uabcd", 6}, {`\uabcd`, 0, "\uabcd", 6},
		{`\U0001F600`, 0, "😀", 10}, {`\U0001f600`, 0, "😀", 10}, {`\U0001F60`, 0, "", 0}, {`\U`, 0, "", 0}, {`\U000000410`, 0, "A", 10}, {`\U00000000`, 0, "\x00", 10}, {`\U0010FFFF`, 0, "\U0010ffff", 10}, {`\U0010fffe`, 0, "\U0010fffe", 10}, {`\U0000fffd`, 0, "\ufffd", 10},
		// A byte among them that is no digit: what is next to the digits, and what numbers elsewhere may have.
		{`\x4g`, 0, "", 0}, {`\xg4`, 0, "", 0}, {`\x4G`, 0, "", 0}, {`\x4/`, 0, "", 0}, {`\x4:`, 0, "", 0}, {`\x4@`, 0, "", 0}, {"\\x4`", 0, "", 0}, {`\x+4`, 0, "", 0}, {`\x-4`, 0, "", 0}, {`\x 4`, 0, "", 0}, {`\x4 `, 0, "", 0}, {"\\x4\n", 0, "", 0}, {`\x_4`, 0, "", 0}, {`\x4_`, 0, "", 0}, {`\x0x`, 0, "", 0}, {`\x4é`, 0, "", 0}, {"\\x4\x00", 0, "", 0}, {"\\x4\xff", 0, "", 0},
		{`\u0x41`, 0, "", 0}, {`\u00_9`, 0, "", 0}, {`\u0_41`, 0, "", 0}, {`\u00"9`, 0, "", 0}, {`\u+041`, 0, "", 0}, {`\u００`, 0, "", 0}, {`\U0000004g`, 0, "", 0}, {`\U-0000041`, 0, "", 0}, {`\U+0000041`, 0, "", 0}, {`\U0x000041`, 0, "", 0}, {`\U0000_041`, 0, "", 0}, {`\U 0000041`, 0, "", 0},
		// Numbers that have no RuneBytes, and their neighbours.
		{`\ud7ff`, 0, "\ud7ff", 6}, {`\ud800`, 0, "", 0}, {`\uD800`, 0, "", 0}, {`\udbff`, 0, "", 0}, {`\udc00`, 0, "", 0}, {`\uDFFF`, 0, "", 0}, {`\ue000`, 0, "\ue000", 6}, {`\ud83d\ude00`, 0, "", 0}, {`\U0000d7ff`, 0, "\ud7ff", 10}, {`\U0000d800`, 0, "", 0}, {`\U0000dfff`, 0, "", 0}, {`\U0000e000`, 0, "\ue000", 10},
		{`\U00110000`, 0, "", 0}, {`\U0010ffff0`, 0, "\U0010ffff", 10}, {`\U7fffffff`, 0, "", 0}, {`\U80000000`, 0, "", 0}, {`\UFFFFFFFF`, 0, "", 0}, {`\U80000041`, 0, "", 0}, {`\Uffffff41`, 0, "", 0}, {`\U01000041`, 0, "", 0},
		// Places within and outside of the text, and texts that aren't clean.
		{`a\n`, 1, "\n", 3}, {"a\n\\x41b", 2, "A", 6}, {`"\t"`, 1, "\t", 3}, {`\n`, -1, "\n", 2}, {`\n`, lowest, "\n", 2}, {`a\n`, -1, "", 0}, {`a\n`, lowest, "", 0}, {`\n`, 2, "", 0}, {`\n`, 3, "", 0}, {`\n`, highest, "", 0}, {`\n`, highest - 1, "", 0}, {`\n\`, highest, "", 0}, {"", lowest, "", 0}, {"", highest, "", 0}, {"", 1, "", 0},
		{"\x00\\n", 0, "", 0}, {"\x00\\n", 1, "\n", 3}, {"\xff\\x41\xff", 1, "A", 5}, {"\\\x00", 0, "", 0}, {"\\\xff", 0, "", 0}, {"\xc3\\n", 0, "", 0},
	} {
		if got, want := escapeOf(c.s, c.p), (escapeAt{c.text, c.end}); got != want {
			t.Errorf("EscapeAt(%q, %d) = %+v, not %+v", c.s, c.p, got, want)
		}
	}
}

// P9: every number of two and four digits, and what eight digits make around the ends of the runes.
func TestEveryNumberOfAnEscape(t *testing.T) {
	check := func(form string, n int) {
		s := fmt.Sprintf(form, n)
		want := escapeAt{bytesByRule(n), len(s)}
		if want.text == "" {
			want.end = 0
		}
		if got := escapeOf(s, 0); got != want {
			t.Fatalf("EscapeAt(%q, 0) = %+v, not %+v", s, got, want)
		}
	}
	for n := range 256 {
		check(`\x%02x`, n)
		check(`\x%02X`, n)
	}
	for n := range 65536 {
		check(`\u%04x`, n)
		check(`\U%08X`, n)
	}
	for n := 65536; n <= 1114111; n += 97 {
		check(`\U%08x`, n)
	}
	for _, n := range []int{1114110, 1114111, 1114112, 1114113, 1 << 21, 1 << 24, 1<<31 - 1, 1 << 31, 1<<32 - 1} {
		check(`\U%08x`, n)
	}
}

// singleBody and doubleBody write a text as it stands between quotes, on one line.
func singleBody(s string) string {
	return strings.ReplaceAll(s, "'", "''")
}

func doubleBody(s string) string {
	return strings.NewReplacer(`\`, `\\`, `"`, `\"`, "\n", `\n`).Replace(s)
}

// P5: a text in quotes is read as it was written, whatever stands around it.
func TestTextsInQuotesAreReadAsWritten(t *testing.T) {
	around := [][2]string{{"", ""}, {"k: ", " # r\n"}, {"[", "]"}, {"{", ": v}"}, {"---\n", "\n...\n"}, {"  - ", "\n"}}
	check := func(read func(string, int) quoteAt, text, written string) {
		for _, x := range around {
			want := quoteAt{text, len(x[0]) + len(written), 0}
			if got := read(x[0]+written+x[1], len(x[0])); got != want {
				t.Fatalf("%q, written as %q between %q and %q, is read as %+v", text, written, x[0], x[1], got)
			}
		}
	}
	eachText([]string{"a", " ", "\t", "'", `"`, `\`, "é", "--- ", "#", "\x00\xff"}, 4, func(s string) {
		check(singleAt, s, "'"+singleBody(s)+"'")
		check(doubleAt, s, `"`+doubleBody(s)+`"`)
	})
	eachText([]string{"a", " ", "\n", "\n--- ", `"`, `\`, "n", "😀"}, 4, func(s string) {
		check(doubleAt, s, `"`+doubleBody(s)+`"`)
		all := ""
		for _, r := range s {
			all += fmt.Sprintf(`\U%08x`, r)
		}
		check(doubleAt, s, `"`+all+`"`)
	})
}

// P5: lines that are folded differ in blanks for breaks alone, and with a blank and a backslash ahead of the break in nothing.
func TestLinesInQuotesDifferInBlanksForBreaks(t *testing.T) {
	eachList([]string{"a", "b  c", "'d'", `"`, `\`, "é\te"}, 5, func(l []string) {
		one := strings.Join(l, " ")
		for _, cut := range []string{"\n", " \n", "\n  ", "\t\n \t"} {
			s := "'" + singleBody(strings.Join(l, cut)) + "'"
			if got := singleAt(s, 0); got != (quoteAt{one, len(s), 0}) {
				t.Fatalf("%q is read as %+v", s, got)
			}
			var bodies []string
			for _, x := range l {
				bodies = append(bodies, doubleBody(x))
			}
			s = `"` + strings.Join(bodies, cut) + `"`
			if got := doubleAt(s, 0); got != (quoteAt{one, len(s), 0}) {
				t.Fatalf("%q is read as %+v", s, got)
			}
			s = `"` + strings.Join(bodies, " \\"+strings.TrimLeft(cut, " \t")) + `"`
			if got := doubleAt(s, 0); got != (quoteAt{one, len(s), 0}) {
				t.Fatalf("%q is read as %+v", s, got)
			}
		}
	})
}

// P5: a break within is read where one more than the breaks that are meant is written.
func TestBreaksInQuotesAreEmptyLines(t *testing.T) {
	runs := regexp.MustCompile(`\n+`)
	eachText([]string{"a", "b c", "\n"}, 6, func(s string) {
		if strings.HasPrefix(s, "\n") || strings.HasSuffix(s, "\n") {
			return
		}
		body := runs.ReplaceAllString(s, "$0\n")
		checkBoth(t, []quoteCase{{"'" + body + "'", 0, s, len(body) + 2, 0}})
	})
}

// Chapter 1: what a call answers hangs on its arguments alone, also behind a fault.
func TestQuotesKeepNothing(t *testing.T) {
	for range 3 {
		checkBoth(t, []quoteCase{
			{"'one \n two\n\n three'", 0, "one two\nthree", 19, 0}, {"'a\n--- b'", 0, "", 3, 4}, {"''", 0, "", 2, 0}, {"'a  ", 0, "", 4, 3}, {"'b\n'", 0, "b ", 4, 0}, {"a", 0, "", 0, 10}, {"'c'", 0, "c", 3, 0},
		})
		checkQuotes(t, doubleAt, []quoteCase{{`"a\t\q"`, 0, "", 4, 5}, {"\" \n\"", 0, " ", 4, 0}, {"\"a\\t \\\n b\"", 0, "a\t b", 10, 0}, {"\"   \n\"", 0, " ", 6, 0}})
		if escapeOf(`\x4g`, 0) != (escapeAt{}) || escapeOf(`\x4a`, 0) != (escapeAt{"J", 4}) {
			t.Error("an escape hangs on the one ahead of it")
		}
	}
}

// checkGreat is as checkQuotes, but doesn't print whole texts.
func checkGreat(t *testing.T, read func(string, int) quoteAt, s string, want quoteAt) {
	t.Helper()
	if got := read(s, 0); got != want {
		t.Errorf("%q .. of %d bytes is read as a text of %d, up to %d, code %d", s[:4], len(s), len(got.text), got.place, got.code)
	}
}

// Every call ends, in time, also for great texts.
func TestGreatQuotes(t *testing.T) {
	const many = 300000
	for _, c := range []struct{ body, text string }{
		{strings.Repeat("a", many), strings.Repeat("a", many)},
		{strings.Repeat(" ", many), strings.Repeat(" ", many)},
		{"a" + strings.Repeat(" ", many) + "\nb", "a b"},
		{"a\n" + strings.Repeat("\t", many) + "b", "a b"},
		{"a" + strings.Repeat("\n", many) + "b", "a" + strings.Repeat("\n", many-1) + "b"},
		{strings.Repeat("a\n", many) + "a", strings.Repeat("a ", many) + "a"},
		{strings.Repeat("a \n \n ", many) + "a", strings.Repeat("a\n", many) + "a"},
		{strings.Repeat("a\n---", many) + "a", strings.Repeat("a ---", many) + "a"},
	} {
		whole, cut := quoteAt{c.text, len(c.body) + 2, 0}, quoteAt{"", len(c.body) + 1, 3}
		checkGreat(t, singleAt, "'"+c.body+"'", whole)
		checkGreat(t, doubleAt, `"`+c.body+`"`, whole)
		checkGreat(t, singleAt, "'"+c.body, cut)
		checkGreat(t, doubleAt, `"`+c.body, cut)
	}
	quotes := "'" + strings.Repeat("''", many) + "'"
	checkGreat(t, singleAt, quotes, quoteAt{strings.Repeat("'", many), len(quotes), 0})
	for _, c := range []struct{ body, text string }{
		{strings.Repeat(`\"\\`, many), strings.Repeat(`"\`, many)},
		{strings.Repeat("\\\n", many), ""},
		{strings.Repeat("a \\\n ", many), strings.Repeat("a ", many)},
		{strings.Repeat(`\t `, many) + "\n", strings.Repeat("\t ", many)},
		{strings.Repeat(`\U0001F600`, many), strings.Repeat("😀", many)},
	} {
		checkGreat(t, doubleAt, `"`+c.body+`"`, quoteAt{c.text, len(c.body) + 2, 0})
	}
}
