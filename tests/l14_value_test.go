package tests

import (
	"fmt"
	"math/big"
	"reflect"
	"regexp"
	"slices"
	"strings"
	"testing"

	"loop.example/g00666/impl"
)

const (
	core   = "tag:yaml.org,2002:"
	most   = 1<<53 - 1 // MaxInt of the document
	mostIn = "9007199254740991"
)

// intTold is what IntOf answers.
type intTold struct {
	n  int
	ok bool
}

func intOf(s string) intTold {
	n, ok := impl.IntOf(s)
	return intTold{n, ok}
}

// baseRules has for each base what a number in it looks like, its digits last.
var baseRules = map[int]*regexp.Regexp{
	8:  regexp.MustCompile(`\A0o([0-7]+)\z`),
	10: regexp.MustCompile(`\A([-+]?[0-9]+)\z`),
	16: regexp.MustCompile(`\A0x([0-9a-fA-F]+)\z`),
}

// intByRule reads a number by patterns, without an end to how great it may be.
func intByRule(s string) intTold {
	for base, rule := range baseRules {
		m := rule.FindStringSubmatch(s)
		if m == nil {
			continue
		}
		n, ok := new(big.Int).SetString(m[1], base)
		if !ok || n.CmpAbs(big.NewInt(most)) > 0 {
			return intTold{}
		}
		return intTold{int(n.Int64()), true}
	}
	return intTold{}
}

func checkInt(t *testing.T, s string, want intTold) {
	t.Helper()
	if got := intOf(s); got != want {
		t.Errorf("IntOf(%.80q) of %d bytes is %v, not %v", s, len(s), got, want)
	}
}

func checkInts(t *testing.T, want int, texts ...string) {
	t.Helper()
	for _, s := range texts {
		checkInt(t, s, intTold{want, true})
	}
}

func checkNoInts(t *testing.T, texts ...string) {
	t.Helper()
	for _, s := range texts {
		checkInt(t, s, intTold{})
	}
}

func TestValueConstants(t *testing.T) {
	kinds := []int{impl.VaNull, impl.VaBool, impl.VaInt, impl.VaText, impl.VaList, impl.VaMap, impl.VaOther, impl.VaAlias}
	if !slices.Equal(kinds, []int{1, 2, 3, 4, 5, 6, 7, 8}) {
		t.Errorf("kinds %v", kinds)
	}
	if impl.MaxInt != most {
		t.Errorf("MaxInt %d", impl.MaxInt)
	}
}

// P7, P9: numbers in each base, with the signs that they may have.
func TestIntOf(t *testing.T) {
	checkInts(t, 0, "0", "-0", "+0", "00", "-00", "+00", "0o0", "0x0", "0o00", "0x00")
	checkInts(t, 7, "7", "+7", "07", "+07", "0o7", "0o07", "0x7", "0x07")
	checkInts(t, -7, "-7", "-07", "-007")
	checkInts(t, 8, "8", "0o10", "0x8", "08")
	checkInts(t, 10, "10", "+10", "010", "0o12", "0xa", "0xA", "0x0a")
	checkInts(t, 17, "17", "017", "0017")
	checkInts(t, 15, "0o17", "0xf", "0xF", "15")
	checkInts(t, 11, "0xb", "0xB", "0o13")
	checkInts(t, 255, "0xff", "0xFF", "0xfF", "0xFf", "0o377", "255")
	checkInts(t, 0x123456789abcd, "0x123456789abcd", "0x123456789ABCD", "0x123456789aBcD")
	checkInts(t, 0xef0, "0xef0", "0xEF0", "0xEf0", "0o7360")
	checkInts(t, 0o1234567, "0o1234567", "342391")
	checkInts(t, 1234567890, "1234567890", "+1234567890")
	checkInts(t, -1234567890, "-1234567890", "-01234567890")
}

// P9: what is no number, by each of the reasons.
func TestIntOfNone(t *testing.T) {
	// Nothing, a sign alone, two signs.
	checkNoInts(t, "", "-", "+", "--", "++", "-+", "+-", "--1", "++1", "-+1", "+-1", "---1", "- 1", "1-", "1+", "1-1", "1+1", "-1-")
	// A sign ahead of a base, or behind it.
	checkNoInts(t, "-0o7", "+0o7", "-0x7", "+0x7", "-0xa", "--0x7", "0o-7", "0o+7", "0x-7", "0x+7", "0x-a", "-0o", "+0x")
	// A base alone, twice, in the wrong case, or half of one.
	checkNoInts(t, "0o", "0x", "0o0o7", "0x0x7", "0o0x7", "0x0o7", "0O7", "0X7", "0Xa", "o7", "x7", "xa", "oO7", "00o7", "00x7", "1o7", "1x7", "0ox7", "0b1", "0B1", "0d1", "&7", "#7", "$7")
	// A digit that the base has not, first, in the middle and last.
	checkNoInts(t, "a12", "1a2", "12a", "f", "A", "-a1", "-1a2", "+12a")
	checkNoInts(t, "0o812", "0o182", "0o128", "0o912", "0o192", "0o129", "0oa12", "0o1a2", "0o12a", "0o8", "0o9", "0oa")
	checkNoInts(t, "0xg12", "0x1g2", "0x12g", "0xG12", "0x1G2", "0x12G", "0xg", "0xz", "0x`1", "0x@1", "0x/1", "0x:1", "0x1`", "0x1@", "0x1/", "0x1:")
	checkNoInts(t, "/1", ":1", "1/", "1:", "1/2", "1:2", "0o/1", "0o:1")
	// What other ways of writing numbers know.
	checkNoInts(t, "1_000", "_1", "1_", "0x_1", "0x1_f", "0o1_7", "1,000", "1.", "1.0", ".1", "1e3", "1E3", "0x1p3", ".inf", "-.inf", ".nan", "Inf", "NaN", "0x1.8", "1i", "1n", "1L", "1u", "~", "null", "true", "१२", "١", "１２", "²", "½", "−1")
	// Blanks and other bytes ahead of and behind it.
	for _, number := range []string{"1", "-1", "+1", "0o1", "0x1", "0xf", "0"} {
		for b := range 256 {
			ahead, behind := string([]byte{byte(b)})+number, number+string([]byte{byte(b)})
			checkInt(t, ahead, intByRule(ahead))
			checkInt(t, behind, intByRule(behind))
		}
		checkNoInts(t, " "+number, number+" ", "\t"+number, number+"\t", "\n"+number, number+"\n", "\r"+number, number+"\r", "\x00"+number, number+"\x00", "\u00a0"+number, number+"\u00a0", "\ufeff"+number, "\xff"+number, number+"\xff", "'"+number+"'", `"`+number+`"`, "("+number+")", number+" "+number, number+"#", " ", "\t", "\n", "\x00")
	}
}

// P7, P9: noughts ahead don't count, however many they are.
func TestIntOfNoughts(t *testing.T) {
	for _, many := range []int{1, 2, 15, 16, 17, 19, 20, 22, 24, 64, 65, 1000, 1 << 20} {
		noughts := strings.Repeat("0", many)
		checkInts(t, 0, noughts, "+"+noughts, "-"+noughts, "0o"+noughts, "0x"+noughts)
		checkInts(t, 12, noughts+"12", "+"+noughts+"12", "0o"+noughts+"14", "0x"+noughts+"c", "0x"+noughts+"C")
		checkInts(t, -12, "-"+noughts+"12")
		checkInts(t, most, noughts+mostIn, "+"+noughts+mostIn, "0o"+noughts+"377777777777777777", "0x"+noughts+"1fffffffffffff")
		checkInts(t, -most, "-"+noughts+mostIn)
		checkNoInts(t, noughts+"9007199254740992", "-"+noughts+"9007199254740992", "0o"+noughts+"400000000000000000", "0x"+noughts+"20000000000000")
		checkNoInts(t, noughts+"-1", noughts+"a", "0o"+noughts+"8", "0x"+noughts+"g", noughts+" ", "- "+noughts, "0"+noughts+"o7", noughts+"0x7")
		// Behind a digit they count.
		if many >= 17 {
			checkNoInts(t, "1"+noughts, "-1"+noughts, "0x1"+noughts)
		}
	}
}

// P7, P9: the greatest numbers, and the least that are too great.
func TestIntOfEnds(t *testing.T) {
	checkInts(t, most, mostIn, "+"+mostIn, "0o377777777777777777", "0x1fffffffffffff", "0x1FFFFFFFFFFFFF", "0x1fFfFfFfFfFfFf")
	checkInts(t, -most, "-"+mostIn)
	checkInts(t, most-1, "9007199254740990", "0o377777777777777776", "0x1ffffffffffffe")
	checkInts(t, 1-most, "-9007199254740990")
	checkNoInts(t, "9007199254740992", "+9007199254740992", "-9007199254740992", "0o400000000000000000", "0x20000000000000")
	checkNoInts(t, "9007199254740993", "-9007199254740993", "0o400000000000000001", "0x20000000000001", "9999999999999999", "10000000000000000")
	// Such as would come back into the range, were bits above an int's lost.
	for _, bits := range []uint{31, 32, 53, 62, 63, 64, 65, 127, 128, 256, 4096} {
		for add := int64(-9); add <= 9; add++ {
			n := new(big.Int).Lsh(big.NewInt(1), bits)
			n.Add(n, big.NewInt(add))
			for _, s := range []string{n.String(), "+" + n.String(), "-" + n.String(), "0o" + n.Text(8), "0x" + n.Text(16)} {
				want := intByRule(s)
				if want.ok != (bits < 53 || bits == 53 && add < 0) {
					t.Fatalf("the rule tells %v of %q", want, s)
				}
				checkInt(t, s, want)
			}
		}
	}
	for _, digits := range []int{17, 18, 19, 20, 21, 22, 100, 1 << 20} {
		for _, d := range []string{"1", "7", "9", "f"} {
			n := strings.Repeat(d, digits)
			checkNoInts(t, n, "+"+n, "-"+n, "0x"+n)
			if digits > 18 {
				checkNoInts(t, "0o"+n)
			}
		}
	}
	// Too great, and then no number at all.
	checkNoInts(t, strings.Repeat("9", 1<<20)+"x", "0x"+strings.Repeat("f", 1<<20)+"g", strings.Repeat("a", 1<<20), strings.Repeat(" ", 1<<20), strings.Repeat("-", 1<<20)+"1")
}

// P9: by patterns, every text of a few signs.
func TestIntOfManyTexts(t *testing.T) {
	numbers := 0
	check := func(s string) {
		want := intByRule(s)
		if want.ok {
			numbers++
		}
		checkInt(t, s, want)
	}
	eachText(strings.Split("01789afFgGoxOX-+ _.\n", ""), 4, check)
	eachText([]string{"0", "7", "8", "f", "0x", "0o", "-", "+", mostIn, "1fffffffffffff"}, 5, check)
	if numbers < 2000 {
		t.Errorf("only %d numbers", numbers)
	}
}

// P7: a number is worth what it writes, in each way of writing it.
func TestIntOfWritten(t *testing.T) {
	r := chance(14)
	for range 20000 {
		n := r.Int64N(most+1) >> r.IntN(53)
		noughts := strings.Repeat("0", r.IntN(30))
		checkInts(t, int(n), fmt.Sprint(n), fmt.Sprintf("+%s%d", noughts, n), fmt.Sprintf("0o%s%o", noughts, n), fmt.Sprintf("0x%s%x", noughts, n), fmt.Sprintf("0x%s%X", noughts, n))
		checkInts(t, int(-n), fmt.Sprintf("-%s%d", noughts, n))
		told := impl.ValueText(impl.ValueOf(impl.Event{Kind: impl.EvText, Style: impl.StPlain, Text: fmt.Sprint(-n)}))
		if told != fmt.Sprintf("int %d", -n) {
			t.Errorf("of %d is told %q", -n, told)
		}
	}
}

// The words that a plain scalar may be, by what they are worth.
var (
	nullWords  = []string{"", "~", "null", "Null", "NULL"}
	trueWords  = []string{"true", "True", "TRUE"}
	falseWords = []string{"false", "False", "FALSE"}
)

// plainWorthByRule tells what a plain scalar without a tag is worth by lists of words.
func plainWorthByRule(text string) impl.Value {
	number := intByRule(text)
	switch {
	case slices.Contains(nullWords, text):
		return impl.Value{Kind: 1}
	case slices.Contains(trueWords, text):
		return impl.Value{Kind: 2, B: true}
	case slices.Contains(falseWords, text):
		return impl.Value{Kind: 2}
	case number.ok:
		return impl.Value{Kind: 3, N: number.n}
	}
	return impl.Value{Kind: 4, S: text}
}

// valueByRule tells what an event is worth by what its tag asks for.
func valueByRule(e impl.Event) impl.Value {
	if !eventByRule(e) {
		return impl.Value{}
	}
	if e.Kind != impl.EvText {
		return map[int]impl.Value{3: {Kind: 5}, 4: {Kind: 6}, 6: {Kind: 8, S: e.Text}}[e.Kind]
	}
	asked, known := map[string]int{core + "null": 1, core + "bool": 2, core + "int": 3, core + "str": 4, "!": 4}[e.Tag]
	plain := plainWorthByRule(e.Text)
	switch {
	case e.Tag == "" && e.Style == impl.StPlain:
		return plain
	case e.Tag == "" || asked == 4:
		return impl.Value{Kind: 4, S: e.Text}
	case known && plain.Kind == asked:
		return plain
	}
	return impl.Value{Kind: 7, S: e.Text}
}

func checkValue(t *testing.T, e impl.Event, want impl.Value) {
	t.Helper()
	kept := e
	if got := impl.ValueOf(e); got != want {
		t.Errorf("ValueOf(%.200s) is %.200s, not %.200s", fmt.Sprintf("%#v", e), fmt.Sprintf("%#v", got), fmt.Sprintf("%#v", want))
	}
	if e != kept {
		t.Errorf("ValueOf changed %#v into %#v", kept, e)
	}
}

func scalar(style int, text, tag string) impl.Event {
	return impl.Event{Kind: impl.EvText, Style: style, Text: text, Tag: tag}
}

// checkPlain asks for what a text is worth as a plain scalar, with an anchor and without.
func checkPlain(t *testing.T, want impl.Value, texts ...string) {
	t.Helper()
	for _, text := range texts {
		e := scalar(impl.StPlain, text, "")
		checkValue(t, e, want)
		e.Anchor = "12"
		checkValue(t, e, want)
	}
}

// P9: plain scalars without a tag.
func TestValueOfPlain(t *testing.T) {
	checkPlain(t, impl.Value{Kind: impl.VaNull}, "", "~", "null", "Null", "NULL")
	checkPlain(t, impl.Value{Kind: impl.VaBool, B: true}, "true", "True", "TRUE")
	checkPlain(t, impl.Value{Kind: impl.VaBool}, "false", "False", "FALSE")
	checkPlain(t, impl.Value{Kind: impl.VaInt, N: 12}, "12", "+12", "012", "0o14", "0xc", "0xC")
	checkPlain(t, impl.Value{Kind: impl.VaInt, N: -12}, "-12", "-00012")
	checkPlain(t, impl.Value{Kind: impl.VaInt}, "0", "-0", "+0", "0x0", "0o0")
	checkPlain(t, impl.Value{Kind: impl.VaInt, N: impl.MaxInt}, mostIn, "0x1fffffffffffff")
	checkPlain(t, impl.Value{Kind: impl.VaInt, N: -impl.MaxInt}, "-"+mostIn)
	for _, text := range []string{
		"a", "nil", "none", "nul", "nulll", "~~", "~ ", " ~", " ", "\n", "null ", " null", "null\n", "'null'", "\x00", "\xff",
		"t", "f", "yes", "no", "Yes", "No", "on", "off", "y", "n", "true ", " true", "truetrue", "tru", "truee", "false\n", "fals", "falsee", "!", "!!int",
		"-", "+", "0x", "0o", "0o8", "-0x1", "1.0", "1e3", "12 ", " 12", "12\n", "1_2", "1 2", ".inf", ".nan", "9007199254740992", "-9007199254740992", "0x20000000000000", "18446744073709551617", strings.Repeat("9", 5000), strings.Repeat("a", 1<<20),
	} {
		checkPlain(t, impl.Value{Kind: impl.VaText, S: text}, text)
	}
}

// eachCase tells every way of writing a word in great and small letters.
func eachCase(word string, f func(string)) {
	for set := range 1 << len(word) {
		b := []byte(strings.ToLower(word))
		for i := range b {
			if set>>i&1 == 1 {
				b[i] -= 'a' - 'A'
			}
		}
		f(string(b))
	}
}

// P9: of all the ways of writing a word in great and small letters three count.
func TestValueOfCases(t *testing.T) {
	for _, c := range []struct {
		word  string
		known []string
		worth impl.Value
		tag   string
	}{
		{"null", []string{"null", "Null", "NULL"}, impl.Value{Kind: impl.VaNull}, core + "null"},
		{"true", []string{"true", "True", "TRUE"}, impl.Value{Kind: impl.VaBool, B: true}, core + "bool"},
		{"false", []string{"false", "False", "FALSE"}, impl.Value{Kind: impl.VaBool}, core + "bool"},
	} {
		met := 0
		eachCase(c.word, func(text string) {
			if slices.Contains(c.known, text) {
				met++
				checkPlain(t, c.worth, text)
				checkValue(t, scalar(impl.StDouble, text, c.tag), c.worth)
				return
			}
			checkPlain(t, impl.Value{Kind: impl.VaText, S: text}, text)
			checkValue(t, scalar(impl.StPlain, text, c.tag), impl.Value{Kind: impl.VaOther, S: text})
		})
		if met != 3 {
			t.Errorf("%s: %d words met", c.word, met)
		}
	}
}

// tagCase is what texts are worth with a tag, in any style.
type tagCase struct {
	tag  string
	want func(text string) impl.Value
}

func asText(text string) impl.Value  { return impl.Value{Kind: impl.VaText, S: text} }
func asOther(text string) impl.Value { return impl.Value{Kind: impl.VaOther, S: text} }

func otherTags() []string {
	return []string{
		core, core + "float", core + "seq", core + "map", core + "set", core + "binary", core + "x", core + "!",
		core + "Int", core + "INT", core + "Str", core + "Null", core + "Bool", core + "int ", core + " int", core + "in", core + "intt", core + "int\n", core + "ints", core + "strr", core + "nul", core + "nulls", core + "boo", core + "boolean", core + "int!", core + core + "int", core + "int\x00",
		"!!", "!!int", "!!str", "!!null", "!!bool", "!int", "!str", "!null", "!bool", "!y", "! ", " !", "!\n", "\x00", "\xff", " ", "int", "str", "null", "bool", "y", "tag:yaml.org,2002", "tag:yaml.org,2003:int", "Tag:yaml.org,2002:int", "TAG:YAML.ORG,2002:INT", "ag:yaml.org,2002:int", " " + core + "int", "!" + core + "int", "<" + core + "int>", "tag:yaml.org,2002int", "tag:yaml.org,2002:/int", strings.Repeat("t", 120), core + strings.Repeat("i", 120-len(core)),
	}
}

// P7, P9: scalars with a tag, and in quotes or as blocks; each word and number that a plain one may be.
func TestValueOfTags(t *testing.T) {
	texts := slices.Concat(nullWords, trueWords, falseWords, []string{"12", "-12", "+12", "0o14", "0xC", "0", mostIn, "9007199254740992", "0x", "a", "a b", "nULL", "TrUE", "fALSE", " ", "1.5", "\n", "null\n", "12\n"})
	cases := []tagCase{{"!", asText}, {core + "str", asText}}
	for _, tag := range otherTags() {
		cases = append(cases, tagCase{tag, asOther})
	}
	for _, c := range cases {
		for _, text := range texts {
			for style := impl.StPlain; style <= impl.StFolded; style++ {
				checkValue(t, scalar(style, text, c.tag), c.want(text))
				e := scalar(style, text, c.tag)
				e.Anchor = "a"
				checkValue(t, e, c.want(text))
			}
		}
	}
	for _, text := range texts {
		for style := impl.StSingle; style <= impl.StFolded; style++ {
			checkValue(t, scalar(style, text, ""), asText(text))
		}
	}
}

// P9: with the tags of null, bool and int a text is worth what it would be as a plain one, in any style, if that is of the kind.
func TestValueOfKindTags(t *testing.T) {
	worth := map[string]map[string]impl.Value{
		core + "null": {"": {Kind: 1}, "~": {Kind: 1}, "null": {Kind: 1}, "Null": {Kind: 1}, "NULL": {Kind: 1}},
		core + "bool": {"true": {Kind: 2, B: true}, "True": {Kind: 2, B: true}, "TRUE": {Kind: 2, B: true}, "false": {Kind: 2}, "False": {Kind: 2}, "FALSE": {Kind: 2}},
		core + "int":  {"12": {Kind: 3, N: 12}, "-12": {Kind: 3, N: -12}, "+012": {Kind: 3, N: 12}, "0o14": {Kind: 3, N: 12}, "0xC": {Kind: 3, N: 12}, "0": {Kind: 3}, "1": {Kind: 3, N: 1}, mostIn: {Kind: 3, N: most}, "-" + mostIn: {Kind: 3, N: -most}},
	}
	var texts []string
	for _, known := range worth {
		for text := range known {
			texts = append(texts, text)
		}
	}
	texts = append(texts, "x", "9007199254740992", "-9007199254740992", "0x", "0o8", "-", "1.0", "12\n", " 12", "12 ", "nULL", "tRUE", "faLSE", "~~", " ", "yes", "null\n", "true\n", strings.Repeat("1", 1<<16))
	for tag, known := range worth {
		for _, text := range texts {
			want, ok := known[text]
			if !ok {
				want = asOther(text)
			}
			for style := impl.StPlain; style <= impl.StFolded; style++ {
				checkValue(t, scalar(style, text, tag), want)
				e := scalar(style, text, tag)
				e.Anchor = "a"
				checkValue(t, e, want)
			}
		}
	}
}

// P9: collections and aliases, whatever tag, style, anchor or name they have.
func TestValueOfOtherNodes(t *testing.T) {
	tags := append(otherTags(), "", "!", core+"str", core+"null", core+"bool", core+"int")
	for _, tag := range tags {
		for _, style := range []int{impl.StFlow, impl.StBlock} {
			for _, anchor := range []string{"", "a", "null", "12", strings.Repeat("a", 60)} {
				checkValue(t, impl.Event{Kind: impl.EvSeq, Style: style, Anchor: anchor, Tag: tag}, impl.Value{Kind: impl.VaList})
				checkValue(t, impl.Event{Kind: impl.EvMap, Style: style, Anchor: anchor, Tag: tag}, impl.Value{Kind: impl.VaMap})
			}
		}
	}
	for _, name := range []string{"a", "~", "null", "true", "FALSE", "12", "-12", "0x1f", "*", "é", "\x00", "\xff", strings.Repeat("a", 60)} {
		checkValue(t, impl.Event{Kind: impl.EvAlias, Text: name}, impl.Value{Kind: impl.VaAlias, S: name})
	}
}

// P9: what is no node is worth nothing.
func TestValueOfNoNodes(t *testing.T) {
	for _, e := range []impl.Event{
		{Kind: impl.EvStream}, {Kind: impl.EvDoc}, {Kind: impl.EvDoc, Flag: true}, {Kind: impl.EvEnd}, {Kind: impl.EvDocEnd}, {Kind: impl.EvDocEnd, Flag: true}, {Kind: impl.EvStreamEnd},
		{Kind: impl.EvFault, Code: 1}, {Kind: impl.EvFault, Code: 3, At: 3}, {Kind: impl.EvFault, Code: 99, At: highest},
	} {
		if !impl.EventOk(e) {
			t.Errorf("%#v isn't right", e)
		}
		checkValue(t, e, impl.Value{})
	}
}

// P9: an event that isn't right is worth nothing, whichever of its fields is wrong.
func TestValueOfWrongEvents(t *testing.T) {
	nodes := []impl.Event{
		{Kind: impl.EvSeq, Style: impl.StFlow}, {Kind: impl.EvMap, Style: impl.StBlock}, {Kind: impl.EvAlias, Text: "a"},
		scalar(impl.StPlain, "12", ""), scalar(impl.StPlain, "null", ""), scalar(impl.StPlain, "", ""), scalar(impl.StPlain, "a", "!"), scalar(impl.StDouble, "12", core+"int"), scalar(impl.StLiteral, "a", "x"),
	}
	wrong := 0
	for _, e := range append(nodes, rightEvents()...) {
		checkValue(t, e, valueByRule(e))
		for _, field := range fieldNames() {
			for _, with := range alteredIn(e, field) {
				if !eventByRule(with) {
					wrong++
					checkValue(t, with, impl.Value{})
				}
				checkValue(t, with, valueByRule(with))
			}
		}
		for _, kind := range []int{lowest, -6, -5, -1, 0, 11, 12, 1<<32 + 5, highest} {
			with := e
			with.Kind = kind
			checkValue(t, with, impl.Value{})
		}
	}
	if wrong < 300 {
		t.Errorf("only %d wrong events", wrong)
	}
	long := strings.Repeat("a", 61)
	for _, e := range []impl.Event{
		{},
		{Kind: impl.EvText, Text: "12"}, scalar(impl.StFlow, "12", ""), scalar(impl.StBlock, "12", ""), scalar(-1, "12", ""), scalar(8, "12", ""), scalar(lowest, "12", ""), scalar(highest, "12", ""),
		scalar(impl.StPlain, "12", strings.Repeat("t", 121)), scalar(impl.StPlain, "12", core+strings.Repeat(" ", 121)),
		{Kind: impl.EvText, Style: impl.StPlain, Text: "12", Anchor: long}, {Kind: impl.EvText, Style: impl.StPlain, Text: "12", Anchor: "a b"}, {Kind: impl.EvText, Style: impl.StPlain, Text: "12", Anchor: "a,"},
		{Kind: impl.EvText, Style: impl.StPlain, Text: "12", Flag: true}, {Kind: impl.EvText, Style: impl.StPlain, Text: "12", At: 1}, {Kind: impl.EvText, Style: impl.StPlain, Text: "12", Code: 1},
		{Kind: impl.EvSeq}, {Kind: impl.EvSeq, Style: impl.StPlain}, {Kind: impl.EvSeq, Style: impl.StFlow, Text: "a"}, {Kind: impl.EvMap}, {Kind: impl.EvMap, Style: impl.StFolded}, {Kind: impl.EvMap, Style: impl.StBlock, Tag: strings.Repeat("t", 121)},
		{Kind: impl.EvAlias}, {Kind: impl.EvAlias, Text: long}, {Kind: impl.EvAlias, Text: "a b"}, {Kind: impl.EvAlias, Text: "a]"}, {Kind: impl.EvAlias, Text: "a", Tag: "!"}, {Kind: impl.EvAlias, Text: "a", Anchor: "a"}, {Kind: impl.EvAlias, Text: "a", Style: impl.StPlain},
		{Kind: impl.EvStream, Text: "12"}, {Kind: impl.EvEnd, Style: impl.StPlain}, {Kind: impl.EvFault}, {Kind: impl.EvFault, Code: 100},
	} {
		checkValue(t, e, impl.Value{})
	}
}

// P7, P9: by the rules, many texts in every style with every kind of tag.
func TestValueOfManyTexts(t *testing.T) {
	tags := []string{"", "!", core + "str", core + "null", core + "bool", core + "int", core + "float", core, "!y"}
	met := map[int]int{}
	check := func(text string) {
		for style := range 7 {
			for _, tag := range tags {
				e := scalar(style, text, tag)
				want := valueByRule(e)
				checkValue(t, e, want)
				met[want.Kind]++
				if got := impl.ValueOf(e); got.Kind == impl.VaInt && style != impl.StPlain && tag != core+"int" {
					t.Errorf("%#v is a number", e)
				}
			}
		}
	}
	eachText([]string{"0", "1", "9", "x", "o", "-", "+", "f", "~", "null", "Null", "NULL", "true", "FALSE", " ", mostIn}, 3, check)
	for _, kind := range []int{0, impl.VaNull, impl.VaBool, impl.VaInt, impl.VaText, impl.VaOther} {
		if met[kind] < 10 {
			t.Errorf("kind %d was met %d times", kind, met[kind])
		}
	}
}

// valuesOf tells what the nodes of a text are worth, in their order.
func valuesOf(s string) string {
	var out []string
	for _, e := range impl.Parse(s) {
		if line := impl.ValueText(impl.ValueOf(e)); line != "" {
			out = append(out, line)
		}
	}
	return strings.Join(out, "; ")
}

// P7: numbers and other values as they stand in a stream; in quotes, or as a block, nothing is a number.
func TestValuesOfStreams(t *testing.T) {
	for s, want := range map[string]string{
		"12": "int 12", "-12": "int -12", "+012 # r": "int 12", "0xFf": "int 255", "--- 0o17\n...\n": "int 15", "- 12\n- -7\n": "list; int 12; int -7", "12: 34": "map; int 12; int 34", "{12: -34}": "map; int 12; int -34",
		"'12'": "text 12", `"12"`: "text 12", "|-\n 12": "text 12", ">-\n 12": "text 12", "|\n 12\n": "text 12\n", "[12, '12', \"12\"]": "list; int 12; text 12; text 12", "'12': \"-34\"": "map; text 12; text -34", `"\x31\x32"`: "text 12", "- |-\n  0x1\n- >-\n  0o1\n": "list; text 0x1; text 0o1",
		"! 12": "text 12", "!!str 12": "text 12", "!!int 12": "int 12", "!!int '12'": "int 12", "!!int |-\n 12": "int 12", "!!int |\n 12\n": "other 12\n", "!!int x": "other x", "!!int": "other ", "!!null": "null", "!!null ''": "null", "!!bool \"true\"": "true", "!!bool 12": "other 12", "!!float 12": "other 12", "!y 12": "other 12", "!<tag:yaml.org,2002:int> 12": "int 12", "!<!> 12": "text 12",
		"%TAG !e! tag:yaml.org,2002:\n--- !e!int '12'": "int 12", "%TAG !! tag:example,2000:\n--- !!int 12": "other 12",
		"&a 12": "int 12", "[&a 12, *a]": "list; int 12; alias a", "- &12 12\n- *12\n": "list; int 12; alias 12",
		"~": "null", "--- \n...\n": "null", "a:\nb: null\n": "map; text a; null; text b; null", "[True, FALSE, tRUE]": "list; true; false; text tRUE", "'~'": "text ~", "''": "text ", "'true'": "text true", "- []\n- {}\n- !!int []\n": "list; list; map; list",
		"12\n13": "text 12 13", "1 2": "text 1 2", "9007199254740991": "int 9007199254740991", "9007199254740992": "text 9007199254740992", "": "", "[12": "list; int 12",
	} {
		if got := valuesOf(s); got != want {
			t.Errorf("of %q is told %q, not %q", s, got, want)
		}
	}
}

// lineOfValue writes a value by a table of forms.
func lineOfValue(v impl.Value) string {
	if v.N > most || v.N < -most {
		return ""
	}
	form := map[int]string{1: "null", 2: "<B>", 3: "int <N>", 4: "text <S>", 5: "list", 6: "map", 7: "other <S>", 8: "alias <S>"}[v.Kind]
	return strings.NewReplacer("<N>", fmt.Sprint(v.N), "<B>", fmt.Sprint(v.B), "<S>", v.S).Replace(form)
}

func checkLine(t *testing.T, v impl.Value, want string) {
	t.Helper()
	kept := v
	if got := impl.ValueText(v); got != want {
		t.Errorf("ValueText(%.200s) is %.200q, not %.200q", fmt.Sprintf("%#v", v), got, want)
	}
	if v != kept {
		t.Errorf("ValueText changed %#v into %#v", kept, v)
	}
}

// P9: the line of each kind.
func TestValueText(t *testing.T) {
	for _, c := range []struct {
		v    impl.Value
		want string
	}{
		{impl.Value{Kind: impl.VaNull}, "null"},
		{impl.Value{Kind: impl.VaBool, B: true}, "true"}, {impl.Value{Kind: impl.VaBool}, "false"},
		{impl.Value{Kind: impl.VaInt}, "int 0"}, {impl.Value{Kind: impl.VaInt, N: 7}, "int 7"}, {impl.Value{Kind: impl.VaInt, N: -7}, "int -7"}, {impl.Value{Kind: impl.VaInt, N: 1}, "int 1"}, {impl.Value{Kind: impl.VaInt, N: -1}, "int -1"}, {impl.Value{Kind: impl.VaInt, N: 10}, "int 10"}, {impl.Value{Kind: impl.VaInt, N: -1200}, "int -1200"},
		{impl.Value{Kind: impl.VaInt, N: 4294967295}, "int 4294967295"}, {impl.Value{Kind: impl.VaInt, N: 4294967296}, "int 4294967296"}, {impl.Value{Kind: impl.VaInt, N: -4294967296}, "int -4294967296"},
		{impl.Value{Kind: impl.VaInt, N: impl.MaxInt}, "int 9007199254740991"}, {impl.Value{Kind: impl.VaInt, N: -impl.MaxInt}, "int -9007199254740991"},
		{impl.Value{Kind: impl.VaText, S: "a"}, "text a"}, {impl.Value{Kind: impl.VaText, S: "a b\n"}, "text a b\n"}, {impl.Value{Kind: impl.VaText}, "text "}, {impl.Value{Kind: impl.VaText, S: " "}, "text  "}, {impl.Value{Kind: impl.VaText, S: "\\\x00\xff"}, "text \\\x00\xff"}, {impl.Value{Kind: impl.VaText, S: "%d <S>"}, "text %d <S>"},
		{impl.Value{Kind: impl.VaList}, "list"}, {impl.Value{Kind: impl.VaMap}, "map"},
		{impl.Value{Kind: impl.VaOther, S: "a"}, "other a"}, {impl.Value{Kind: impl.VaOther}, "other "}, {impl.Value{Kind: impl.VaOther, S: "12\n"}, "other 12\n"},
		{impl.Value{Kind: impl.VaAlias, S: "a"}, "alias a"}, {impl.Value{Kind: impl.VaAlias}, "alias "}, {impl.Value{Kind: impl.VaAlias, S: "a, b"}, "alias a, b"},
	} {
		checkLine(t, c.v, c.want)
	}
	great := strings.Repeat("a\n", 1<<19)
	checkLine(t, impl.Value{Kind: impl.VaText, S: great}, "text "+great)
	checkLine(t, impl.Value{Kind: impl.VaOther, S: great}, "other "+great)
	checkLine(t, impl.Value{Kind: impl.VaAlias, S: great}, "alias "+great)
}

// P9: a value of no kind, whatever else it has, has no line.
func TestValueTextWrongKinds(t *testing.T) {
	for _, kind := range []int{lowest, lowest + 1, -1 << 32, -9, -8, -3, -2, -1, 0, 9, 10, 11, 1 << 32, 1<<32 + 1, 1<<32 + 3, highest - 1, highest} {
		for _, v := range []impl.Value{{}, {N: 12}, {B: true}, {S: "a"}, {N: -12, B: true, S: "a"}, {N: highest, B: true, S: "a"}} {
			v.Kind = kind
			checkLine(t, v, "")
		}
	}
}

// P9: a number beyond the ends has no line.
func TestValueTextEnds(t *testing.T) {
	for _, n := range []int{most + 1, -most - 1, most + 2, -most - 2, 1 << 62, -1 << 62, lowest, lowest + 1, highest, highest - 1} {
		for kind := impl.VaNull; kind <= impl.VaAlias; kind++ {
			checkLine(t, impl.Value{Kind: kind, N: n}, "")
			checkLine(t, impl.Value{Kind: kind, N: n, B: true, S: "a"}, "")
		}
	}
}

// P9: the fields of which a kind has no word don't show in its line.
func TestValueTextOtherFields(t *testing.T) {
	own := map[int]string{impl.VaNull: "", impl.VaBool: "B", impl.VaInt: "N", impl.VaText: "S", impl.VaList: "", impl.VaMap: "", impl.VaOther: "S", impl.VaAlias: "S"}
	for kind, field := range own {
		for _, n := range []int{0, 5, -5, most, -most} {
			for _, b := range []bool{false, true} {
				for _, s := range []string{"", "x", "null", "12", "list"} {
					v := impl.Value{Kind: kind, N: n, B: b, S: s}
					bare := impl.Value{Kind: kind}
					if field != "" {
						reflect.ValueOf(&bare).Elem().FieldByName(field).Set(reflect.ValueOf(v).FieldByName(field))
					}
					checkLine(t, v, lineOfValue(bare))
					checkLine(t, bare, lineOfValue(bare))
				}
			}
		}
	}
}

// P9: by a table of forms, values of many kinds with many fields.
func TestValueTextOfManyValues(t *testing.T) {
	for kind := -3; kind <= 12; kind++ {
		for _, n := range []int{lowest, -most - 1, -most, -12, -1, 0, 1, 12, most, most + 1, highest} {
			for _, b := range []bool{false, true} {
				for _, s := range []string{"", "a", "<S>", "\n", "é", "\xff", "int 5"} {
					v := impl.Value{Kind: kind, N: n, B: b, S: s}
					checkLine(t, v, lineOfValue(v))
				}
			}
		}
	}
}

// P7: a number's line has the number that is read of it again.
func TestValueTextReadAgain(t *testing.T) {
	r := chance(15)
	for range 20000 {
		n := int(r.Int64N(most+1) >> r.IntN(53))
		for _, n := range []int{n, -n} {
			digits, ok := strings.CutPrefix(impl.ValueText(impl.Value{Kind: impl.VaInt, N: n}), "int ")
			if !ok || digits != fmt.Sprint(n) {
				t.Errorf("of %d is told %q", n, digits)
			}
			checkInts(t, n, digits)
		}
	}
}

// Answers hang on nothing that was asked ahead of them, and what was told stays as it was.
func TestValuesKeepNothing(t *testing.T) {
	events := append(rightEvents(), scalar(1, "12", ""), scalar(1, "-7", ""), scalar(2, "12", ""), scalar(1, "true", ""), scalar(1, "", ""), scalar(3, "false", core+"bool"), scalar(1, "x", core+"int"), scalar(1, "a", "!y"), impl.Event{})
	type told struct {
		v    impl.Value
		line string
		n    intTold
	}
	ask := func(e impl.Event) told {
		v := impl.ValueOf(e)
		return told{v, impl.ValueText(v), intOf(e.Text)}
	}
	first := map[impl.Event]told{}
	for _, e := range events {
		first[e] = ask(e)
	}
	for range 3 {
		slices.Reverse(events)
		for _, e := range events {
			if got := ask(e); got != first[e] || got.v != valueByRule(e) || got.line != lineOfValue(got.v) {
				t.Errorf("of %#v is now told %+v, not %+v", e, got, first[e])
			}
		}
	}
}
