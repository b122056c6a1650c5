package tests

import (
	"fmt"
	"reflect"
	"regexp"
	"slices"
	"strings"
	"testing"

	"loop.example/g00666/impl"
)

// ownFields has for each kind the fields that it names.
var ownFields = map[int]string{
	1: "", 2: "Flag", 3: "Style Anchor Tag", 4: "Style Anchor Tag", 5: "Style Text Anchor Tag",
	6: "Text", 7: "", 8: "Flag", 9: "", 10: "At Code",
}

var styleOfKind = map[int]string{3: "67", 4: "67", 5: "12345"}

// rightEvents has a right event of each kind, with all the fields that its kind names.
func rightEvents() []impl.Event {
	return []impl.Event{
		{Kind: 1},
		{Kind: 2, Flag: true},
		{Kind: 3, Style: 6, Anchor: "a", Tag: "t"},
		{Kind: 4, Style: 7, Anchor: "b", Tag: "!"},
		{Kind: 5, Style: 3, Text: "a b", Anchor: "c", Tag: "u"},
		{Kind: 6, Text: "a"},
		{Kind: 7},
		{Kind: 8, Flag: true},
		{Kind: 9},
		{Kind: 10, Code: 1, At: 1},
	}
}

// alteredIn hands out the event with each value in the field of that name that isn't zero.
func alteredIn(e impl.Event, field string) []impl.Event {
	var out []impl.Event
	for _, v := range []any{1, 6, -1, lowest, highest, true, "a", " ", "\x00", "\xff", strings.Repeat("a", 200)} {
		with := e
		f := reflect.ValueOf(&with).Elem().FieldByName(field)
		if reflect.TypeOf(v) == f.Type() {
			f.Set(reflect.ValueOf(v))
			out = append(out, with)
		}
	}
	return out
}

func fieldNames() []string {
	var out []string
	for f := range reflect.TypeFor[impl.Event]().Fields() {
		out = append(out, f.Name)
	}
	return out
}

var anchorRule = regexp.MustCompile(`^[^ \t\n,\[\]{}]*$`)

func nameOkByRule(s string) bool {
	return len(s) < 61 && anchorRule.MatchString(strings.ToValidUTF8(s, "?"))
}

// eventByRule tells whether an event is right, field by field.
func eventByRule(e impl.Event) bool {
	own, ok := ownFields[e.Kind]
	if !ok {
		return false
	}
	for _, name := range fieldNames() {
		if name != "Kind" && !strings.Contains(own, name) && !reflect.ValueOf(e).FieldByName(name).IsZero() {
			return false
		}
	}
	if styles, ok := styleOfKind[e.Kind]; ok && (e.Style < 1 || e.Style > 9 || !strings.Contains(styles, fmt.Sprint(e.Style))) {
		return false
	}
	if e.Kind == 6 && (e.Text == "" || !nameOkByRule(e.Text)) {
		return false
	}
	if e.Kind == 10 && (e.Code < 1 || e.Code > 99 || e.At < 0) {
		return false
	}
	return nameOkByRule(e.Anchor) && len(e.Tag) < 121
}

// lineOfEvent writes a right event by patterns.
func lineOfEvent(e impl.Event) string {
	line := [...]string{"", "+STR", "+DOC", "+SEQ", "+MAP", "=VAL", "=ALI *", "-END", "-DOC", "-STR", "!FAULT"}[e.Kind]
	if e.Flag {
		line += map[int]string{2: " ---", 8: " ..."}[e.Kind]
	}
	if e.Style == 6 {
		line += map[int]string{3: " []", 4: " {}"}[e.Kind]
	}
	if e.Anchor != "" {
		line += fmt.Sprintf(" &%s", e.Anchor)
	}
	if e.Tag != "" {
		line += fmt.Sprintf(" <%s>", e.Tag)
	}
	switch e.Kind {
	case 5:
		hide := strings.NewReplacer("\\", `\\`, "\n", `\n`, "\t", `\t`, "\r", `\r`, "\b", `\b`, "\x00", `\0`)
		line += " " + ":'\"|>"[e.Style-1:e.Style] + hide.Replace(e.Text)
	case 6:
		line += e.Text
	case 10:
		line += fmt.Sprintf(" %d ", e.Code)
		if e.At <= 4294967295 {
			line += fmt.Sprint(e.At)
		}
	}
	return line
}

func TestEventConstants(t *testing.T) {
	kinds := []int{impl.EvStream, impl.EvDoc, impl.EvSeq, impl.EvMap, impl.EvText, impl.EvAlias, impl.EvEnd, impl.EvDocEnd, impl.EvStreamEnd, impl.EvFault}
	if !slices.Equal(kinds, []int{1, 2, 3, 4, 5, 6, 7, 8, 9, 10}) {
		t.Errorf("kinds %v", kinds)
	}
	styles := []int{impl.StPlain, impl.StSingle, impl.StDouble, impl.StLiteral, impl.StFolded, impl.StFlow, impl.StBlock}
	if !slices.Equal(styles, []int{1, 2, 3, 4, 5, 6, 7}) {
		t.Errorf("styles %v", styles)
	}
}

func checkOk(t *testing.T, e impl.Event, want bool) {
	t.Helper()
	if got := impl.EventOk(e); got != want {
		t.Errorf("EventOk(%#v) = %v", e, got)
	}
	if line := impl.EventText(e); want && line != lineOfEvent(e) || !want && line != "" {
		t.Errorf("EventText(%#v) = %q", e, line)
	}
}

func TestEventOkEachKind(t *testing.T) {
	for i, e := range rightEvents() {
		if e.Kind != i+1 {
			t.Fatalf("kind %d at place %d", e.Kind, i)
		}
		checkOk(t, e, true)
	}
	for _, e := range []impl.Event{
		{Kind: impl.EvDoc},
		{Kind: impl.EvDocEnd},
		{Kind: impl.EvSeq, Style: impl.StBlock},
		{Kind: impl.EvMap, Style: impl.StFlow},
		{Kind: impl.EvText, Style: impl.StPlain},
		{Kind: impl.EvText, Style: impl.StFolded, Text: " \n\x00\xff"},
		{Kind: impl.EvFault, Code: 1},
	} {
		checkOk(t, e, true)
	}
}

func TestEventOkOtherFields(t *testing.T) {
	for _, e := range rightEvents() {
		asked := 0
		for _, name := range fieldNames() {
			if name == "Kind" || strings.Contains(ownFields[e.Kind], name) {
				continue
			}
			for _, with := range alteredIn(e, name) {
				checkOk(t, with, false)
				asked++
			}
		}
		if asked < 3 {
			t.Errorf("kind %d: %d asked", e.Kind, asked)
		}
	}
}

func TestEventOkWrongKinds(t *testing.T) {
	for _, kind := range []int{0, 11, 12, -1, -2, -10, 1 << 32, 1<<32 + 1, lowest, highest} {
		checkOk(t, impl.Event{Kind: kind}, false)
		for _, e := range rightEvents() {
			e.Kind = kind
			checkOk(t, e, false)
		}
	}
}

func TestEventOkStyles(t *testing.T) {
	for _, e := range rightEvents() {
		for _, style := range []int{lowest, -6, -1, 0, 1, 2, 3, 4, 5, 6, 7, 8, 9, 1<<32 + 1, 1<<32 + 6, highest} {
			want := style == 0
			switch e.Kind {
			case impl.EvSeq, impl.EvMap:
				want = style == impl.StFlow || style == impl.StBlock
			case impl.EvText:
				want = style >= impl.StPlain && style <= impl.StFolded
			}
			e.Style = style
			checkOk(t, e, want)
		}
	}
}

func TestEventOkFlags(t *testing.T) {
	for _, e := range rightEvents() {
		e.Flag = false
		checkOk(t, e, true)
		e.Flag = true
		checkOk(t, e, e.Kind == impl.EvDoc || e.Kind == impl.EvDocEnd)
	}
}

// withName puts a name into each kind of event that has one.
func withName(name string) []impl.Event {
	return []impl.Event{
		{Kind: impl.EvSeq, Style: impl.StFlow, Anchor: name},
		{Kind: impl.EvMap, Style: impl.StBlock, Anchor: name, Tag: "t"},
		{Kind: impl.EvText, Style: impl.StSingle, Anchor: name},
		{Kind: impl.EvAlias, Text: name},
	}
}

func TestEventOkLengthsOfNames(t *testing.T) {
	for _, n := range []int{0, 1, 2, impl.MaxName - 1, impl.MaxName, impl.MaxName + 1, 2 * impl.MaxName, 300000} {
		for _, e := range withName(strings.Repeat("x", n)) {
			checkOk(t, e, n <= impl.MaxName && (n > 0 || e.Kind != impl.EvAlias))
		}
	}
	// The bytes are counted, not the runes.
	for _, e := range withName(strings.Repeat("é", impl.MaxName/2)) {
		checkOk(t, e, true)
	}
	for _, e := range withName(strings.Repeat("é", impl.MaxName/2) + "x") {
		checkOk(t, e, false)
	}
}

func TestEventOkEveryByteOfAName(t *testing.T) {
	for b := range 256 {
		sign := string([]byte{byte(b)})
		want := !strings.Contains(" \t\n,[]{}", sign)
		for _, name := range []string{sign, sign + "a", "a" + sign, "a" + sign + "b", strings.Repeat("a", impl.MaxName-1) + sign} {
			for _, e := range withName(name) {
				checkOk(t, e, want)
			}
		}
	}
}

func TestEventOkTags(t *testing.T) {
	for _, kind := range []impl.Event{{Kind: 3, Style: 6}, {Kind: 3, Style: 7, Anchor: "a"}, {Kind: 4, Style: 6}, {Kind: 5, Style: 1}, {Kind: 5, Style: 5, Text: "b"}} {
		for _, n := range []int{0, 1, impl.MaxName, impl.MaxName + 1, 2*impl.MaxName - 1, 2 * impl.MaxName, 2*impl.MaxName + 1, 300000} {
			e := kind
			e.Tag = strings.Repeat("t", n)
			checkOk(t, e, n <= 2*impl.MaxName)
		}
		for b := range 256 {
			e := kind
			e.Tag = string([]byte{byte(b)})
			checkOk(t, e, true)
			e.Tag = strings.Repeat(e.Tag, 2*impl.MaxName)
			checkOk(t, e, true)
		}
	}
}

func TestEventOkFaults(t *testing.T) {
	for _, code := range []int{lowest, -1, 0, 1, 2, 50, 98, 99, 100, 101, 1<<32 + 1, highest} {
		for _, at := range []int{lowest, -1, 0, 1, 60000, impl.MaxNum - 1, impl.MaxNum, impl.MaxNum + 1, highest} {
			checkOk(t, impl.Event{Kind: impl.EvFault, Code: code, At: at}, code >= 1 && code <= 99 && at >= 0)
		}
	}
}

// P9: EventOk and EventText answer by their rules, whatever is in the fields of an event.
func TestEventsOfManyFields(t *testing.T) {
	long := strings.Repeat("n", 60)
	names := []string{"", "a", long, long + "n", "a b", "a]", "\xff\x00"}
	seen := map[bool]int{}
	check := func(e impl.Event) {
		want, line := eventByRule(e), ""
		if want {
			line = lineOfEvent(e)
		}
		seen[want]++
		if got := impl.EventOk(e); got != want {
			t.Fatalf("EventOk(%#v) = %v", e, got)
		}
		if got := impl.EventText(e); got != line {
			t.Fatalf("EventText(%#v) = %q, not %q", e, got, line)
		}
	}
	for kind := -1; kind <= 12; kind++ {
		for style := -1; style <= 8; style++ {
			for _, text := range names {
				for _, anchor := range names {
					for _, tag := range []string{"", "t", long + long, long + long + "t"} {
						for more := range 12 {
							check(impl.Event{Kind: kind, Style: style, Flag: more%2 > 0, Text: text, Anchor: anchor, Tag: tag, At: more/2%3 - 1, Code: more / 6})
						}
					}
				}
			}
		}
	}
	if seen[true] < 200 || seen[false] < 200 {
		t.Errorf("right and wrong ones: %v", seen)
	}
}

func TestEventTextLines(t *testing.T) {
	for _, c := range []struct {
		e    impl.Event
		want string
	}{
		{impl.Event{Kind: impl.EvStream}, "+STR"},
		{impl.Event{Kind: impl.EvDoc}, "+DOC"},
		{impl.Event{Kind: impl.EvDoc, Flag: true}, "+DOC ---"},
		{impl.Event{Kind: impl.EvSeq, Style: impl.StBlock}, "+SEQ"},
		{impl.Event{Kind: impl.EvSeq, Style: impl.StFlow}, "+SEQ []"},
		{impl.Event{Kind: impl.EvSeq, Style: impl.StFlow, Anchor: "a"}, "+SEQ [] &a"},
		{impl.Event{Kind: impl.EvSeq, Style: impl.StBlock, Tag: "!t"}, "+SEQ <!t>"},
		{impl.Event{Kind: impl.EvSeq, Style: impl.StBlock, Anchor: "a", Tag: "!t"}, "+SEQ &a <!t>"},
		{impl.Event{Kind: impl.EvMap, Style: impl.StBlock}, "+MAP"},
		{impl.Event{Kind: impl.EvMap, Style: impl.StFlow}, "+MAP {}"},
		{impl.Event{Kind: impl.EvMap, Style: impl.StBlock, Anchor: "a"}, "+MAP &a"},
		{impl.Event{Kind: impl.EvMap, Style: impl.StFlow, Tag: "t"}, "+MAP {} <t>"},
		{impl.Event{Kind: impl.EvMap, Style: impl.StFlow, Anchor: "a", Tag: "t"}, "+MAP {} &a <t>"},
		{impl.Event{Kind: impl.EvText, Style: impl.StPlain}, "=VAL :"},
		{impl.Event{Kind: impl.EvText, Style: impl.StPlain, Text: "a b"}, "=VAL :a b"},
		{impl.Event{Kind: impl.EvText, Style: impl.StSingle, Text: "'"}, "=VAL ''"},
		{impl.Event{Kind: impl.EvText, Style: impl.StDouble, Text: `"`}, `=VAL ""`},
		{impl.Event{Kind: impl.EvText, Style: impl.StLiteral, Text: "a\nb\n"}, `=VAL |a\nb\n`},
		{impl.Event{Kind: impl.EvText, Style: impl.StFolded, Text: " "}, "=VAL > "},
		{impl.Event{Kind: impl.EvText, Style: impl.StPlain, Text: "x", Anchor: "a"}, "=VAL &a :x"},
		{impl.Event{Kind: impl.EvText, Style: impl.StPlain, Text: "x", Tag: "t"}, "=VAL <t> :x"},
		{impl.Event{Kind: impl.EvText, Style: impl.StFolded, Text: "x", Anchor: "a", Tag: "t"}, "=VAL &a <t> >x"},
		{impl.Event{Kind: impl.EvText, Style: impl.StDouble, Text: "a\n\\"}, `=VAL "a\n\\`},
		{impl.Event{Kind: impl.EvAlias, Text: "a"}, "=ALI *a"},
		{impl.Event{Kind: impl.EvAlias, Text: `\`}, `=ALI *\`},
		{impl.Event{Kind: impl.EvEnd}, "-END"},
		{impl.Event{Kind: impl.EvDocEnd}, "-DOC"},
		{impl.Event{Kind: impl.EvDocEnd, Flag: true}, "-DOC ..."},
		{impl.Event{Kind: impl.EvStreamEnd}, "-STR"},
		{impl.Event{Kind: impl.EvFault, Code: 1}, "!FAULT 1 0"},
		{impl.Event{Kind: impl.EvFault, Code: 99, At: 60000}, "!FAULT 99 60000"},
		{impl.Event{Kind: impl.EvFault, Code: 9, At: impl.MaxNum}, "!FAULT 9 4294967295"},
		{impl.Event{Kind: impl.EvFault, Code: 9, At: impl.MaxNum + 1}, "!FAULT 9 "},
		{impl.Event{Kind: impl.EvFault, Code: 9, At: highest}, "!FAULT 9 "},
	} {
		if got := impl.EventText(c.e); got != c.want {
			t.Errorf("EventText(%#v) = %q, not %q", c.e, got, c.want)
		}
	}
}

// Names and tags stand as they are, whatever their bytes: the backslashes are for texts alone.
func TestEventTextNamesAsTheyAre(t *testing.T) {
	for _, c := range []struct {
		e    impl.Event
		want string
	}{
		{impl.Event{Kind: impl.EvSeq, Style: impl.StBlock, Anchor: "\\\r\b\x00", Tag: "\\\n\t\r\b\x00"}, "+SEQ &\\\r\b\x00 <\\\n\t\r\b\x00>"},
		{impl.Event{Kind: impl.EvText, Style: impl.StPlain, Anchor: "\xff", Tag: " > "}, "=VAL &\xff < > > :"},
		{impl.Event{Kind: impl.EvAlias, Text: "\\\r\b\x00\xff"}, "=ALI *\\\r\b\x00\xff"},
	} {
		if got := impl.EventText(c.e); got != c.want {
			t.Errorf("EventText(%#v) = %q, not %q", c.e, got, c.want)
		}
	}
}

func TestEventTextEveryByte(t *testing.T) {
	signs := map[int]string{'\\': `\\`, 10: `\n`, 9: `\t`, 13: `\r`, 8: `\b`, 0: `\0`}
	for b := range 256 {
		text := string([]byte{byte(b)})
		want, ok := signs[b]
		if !ok {
			want = text
		}
		for _, n := range []int{1, 2, 3} {
			e := impl.Event{Kind: impl.EvText, Style: impl.StLiteral, Text: strings.Repeat(text, n)}
			if got := impl.EventText(e); got != "=VAL |"+strings.Repeat(want, n) {
				t.Errorf("EventText of %d times byte %d = %q", n, b, got)
			}
		}
	}
}

// A text can be read back from its line, on which no break, no byte 9, 13, 8 and none 0 stands.
func TestEventTextCanBeReadBack(t *testing.T) {
	back := strings.NewReplacer(`\\`, "\\", `\n`, "\n", `\t`, "\t", `\r`, "\r", `\b`, "\b", `\0`, "\x00")
	eachText([]string{"\\", "\n", "\t", "\r", "\b", "\x00", "n", "0", "é", "\xff"}, 4, func(s string) {
		line := impl.EventText(impl.Event{Kind: impl.EvText, Style: impl.StDouble, Text: s})
		text, ok := strings.CutPrefix(line, `=VAL "`)
		if !ok || strings.ContainsAny(text, "\n\t\r\b\x00") || back.Replace(text) != s {
			t.Fatalf("EventText of %q = %q", s, line)
		}
	})
}

func TestEventsText(t *testing.T) {
	s, z := impl.Event{Kind: impl.EvStream}, impl.Event{Kind: impl.EvStreamEnd}
	v := impl.Event{Kind: impl.EvText, Style: impl.StLiteral, Text: "a\n"}
	for _, c := range []struct {
		l    []impl.Event
		want string
	}{
		{nil, ""},
		{[]impl.Event{}, ""},
		{[]impl.Event{s}, "+STR\n"},
		{[]impl.Event{s, z}, "+STR\n-STR\n"},
		{[]impl.Event{v, v, s}, "=VAL |a\\n\n=VAL |a\\n\n+STR\n"},
		{[]impl.Event{{}}, "\n"},
		{[]impl.Event{s, {}, z}, "+STR\n\n-STR\n"},
		{[]impl.Event{s, {Kind: impl.EvEnd, At: 1}, {Kind: 11}, z}, "+STR\n\n\n-STR\n"},
		{[]impl.Event{{Kind: lowest}, s}, "\n+STR\n"},
		{[]impl.Event{s, {Kind: impl.EvAlias}}, "+STR\n\n"},
	} {
		if got := impl.EventsText(c.l); got != c.want {
			t.Errorf("EventsText(%#v) = %q, not %q", c.l, got, c.want)
		}
	}
	all := rightEvents()
	want := "+STR\n+DOC ---\n+SEQ [] &a <t>\n+MAP &b <!>\n=VAL &c <u> \"a b\n=ALI *a\n-END\n-DOC ...\n-STR\n!FAULT 1 1\n"
	if got := impl.EventsText(all); got != want {
		t.Errorf("EventsText of each kind = %q", got)
	}
}

// eventOf tells the event for which a letter stands; ? and ! are two that aren't right.
func eventOf(letter byte) impl.Event {
	switch letter {
	case 's':
		return impl.Event{Kind: impl.EvStream}
	case 'd':
		return impl.Event{Kind: impl.EvDoc}
	case 'D':
		return impl.Event{Kind: impl.EvDoc, Flag: true}
	case 'q':
		return impl.Event{Kind: impl.EvSeq, Style: impl.StFlow}
	case 'Q':
		return impl.Event{Kind: impl.EvSeq, Style: impl.StBlock, Anchor: "a", Tag: "t"}
	case 'm':
		return impl.Event{Kind: impl.EvMap, Style: impl.StFlow}
	case 'M':
		return impl.Event{Kind: impl.EvMap, Style: impl.StBlock, Anchor: "b", Tag: "t"}
	case 'v':
		return impl.Event{Kind: impl.EvText, Style: impl.StPlain}
	case 'V':
		return impl.Event{Kind: impl.EvText, Style: impl.StFolded, Text: "a\n", Anchor: "c", Tag: "!"}
	case 'a':
		return impl.Event{Kind: impl.EvAlias, Text: "a"}
	case 'e':
		return impl.Event{Kind: impl.EvEnd}
	case 'x':
		return impl.Event{Kind: impl.EvDocEnd}
	case 'X':
		return impl.Event{Kind: impl.EvDocEnd, Flag: true}
	case 'z':
		return impl.Event{Kind: impl.EvStreamEnd}
	case 'f':
		return impl.Event{Kind: impl.EvFault, Code: 3, At: 7}
	case '!':
		return impl.Event{Kind: impl.EvText}
	}
	return impl.Event{}
}

func eventsOf(letters string) []impl.Event {
	var l []impl.Event
	for i := range len(letters) {
		l = append(l, eventOf(letters[i]))
	}
	return l
}

func checkNested(t *testing.T, want bool, lists ...string) {
	t.Helper()
	for _, letters := range lists {
		if got := impl.Nested(eventsOf(letters)); got != want {
			t.Errorf("Nested of %q = %v", letters, got)
		}
	}
}

func TestNestedStreams(t *testing.T) {
	checkNested(t, true, "sz", "sdvxz", "sDvXz", "sdvXz", "sDvxz", "sdvxdvxz", "sdaxDVXdqexz")
	// Each kind of node as the document's.
	checkNested(t, true, "sdvxz", "sdVxz", "sdaxz", "sdqexz", "sdQexz", "sdmexz", "sdMexz")
	// Collections in one another.
	checkNested(t, true, "sdqvexz", "sdqvvvexz", "sdqqeqeexz", "sdqmeexz", "sdqqqeeexz", "sdmqeqeexz", "sdmmvvemeexz", "sdmvqvvveexz", "sdqvmvaeexz")
	// A map has pairs.
	checkNested(t, true, "sdmexz", "sdmvvexz", "sdmavexz", "sdmvvvvexz", "sdmvqveexz")
	checkNested(t, false, "sdmvexz", "sdmvvvexz", "sdmqeexz", "sdmmeexz", "sdmvvqeexz", "sdqmveexz")
}

func TestNestedFaults(t *testing.T) {
	checkNested(t, true, "sf", "sdf", "sdvf", "sdvxf", "sdqf", "sdqvf", "sdqvef", "sdmf", "sdmvf", "sdmvvf", "sdmvvef", "sdvxdf", "sdqmqf")
	checkNested(t, false, "f", "fs", "fsz", "ff", "fdvxz")
	// Nothing comes behind a fault; none comes behind the end.
	checkNested(t, false, "sff", "szf", "sfz", "sdfvxz", "sdvfxz", "sdvxfz", "sdqfe", "sdmvfv", "sdvxzf", "sfs", "sfd")
	// A fault takes the place of one event; what is ahead of it must be right.
	checkNested(t, false, "sdvvf", "sdxf", "sdmvef", "sdef", "sxf", "sef", "svf", "ssf", "sdzf", "sddf", "df", "vf")
	for _, letters := range []string{"sz", "sdvxz", "sDMVQaevveXdqmeqeexdaxz"} {
		for i := range letters {
			checkNested(t, i > 0, letters[:i]+"f")
			checkNested(t, false, letters[:i]+"f"+letters[i:], letters[:i]+"f"+letters[min(i+1, len(letters)):]+"z")
		}
		checkNested(t, false, letters+"f")
	}
}

func TestNestedWrong(t *testing.T) {
	checkNested(t, false, "", "s", "z", "v", "d", "dvx", "sdvx", "zs", "vz", "qe", "?", "s?z")
	// Anything behind the end.
	for _, letter := range "sdDqQmMvVaexXzf?!" {
		checkNested(t, false, "sz"+string(letter), "sdvxz"+string(letter), "sdqvexz"+string(letter))
	}
	// Two nodes in a document, and none.
	checkNested(t, false, "sdxz", "sdvvxz", "sdavxz", "sdqevxz", "sdvqexz", "sdqeqexz", "sdmemexz", "svz", "sqez", "sdvxvz")
	// An end too much, and one that lacks.
	checkNested(t, false, "sdexz", "sdvexz", "sdqeexz", "sdmeexz", "sez", "sdvxez", "sdqxz", "sdmxz", "sdqvxz", "sdqqexz", "sdmvqvexz", "sdqez", "sdvz", "sdqz", "sdz", "sdveez")
	// A stream or a document within one.
	checkNested(t, false, "ssz", "sszz", "sdsz", "sddvxxz", "sddvxz", "sdvxxz", "sxz", "sdqdvxexz", "sdqszexz", "sdvxsz", "sdvxszz")
}

func TestNestedEndsTooSoon(t *testing.T) {
	for _, letters := range []string{"sz", "sdvxz", "sDMVQaevveXdqmeqeexdaxz", "sdqqqvvvmvaeeeexz"} {
		checkNested(t, true, letters)
		for i := range letters {
			checkNested(t, false, letters[:i])
		}
	}
}

func TestNestedWrongWithin(t *testing.T) {
	letters := "sdmvqaevvexz"
	checkNested(t, true, letters)
	wrong := []impl.Event{{}, {Kind: 11}, {Kind: -1}, {Kind: lowest}, {Kind: highest}}
	for i, e := range eventsOf(letters) {
		spoilt := slices.Clone(wrong)
		for _, name := range fieldNames() {
			for _, with := range alteredIn(e, name) {
				if name != "Kind" && !eventByRule(with) {
					spoilt = append(spoilt, with)
				}
			}
		}
		for _, with := range spoilt {
			l := eventsOf(letters)
			l[i] = with
			if impl.Nested(l) {
				t.Errorf("Nested with %#v at place %d", with, i)
			}
			if impl.Nested(append(l, impl.Event{Kind: impl.EvFault, Code: 1})) {
				t.Errorf("Nested with %#v at place %d, and a fault", with, i)
			}
		}
	}
	// Also the fault must be right.
	for _, e := range []impl.Event{{Kind: impl.EvFault}, {Kind: impl.EvFault, Code: 100}, {Kind: impl.EvFault, Code: 1, At: -1}, {Kind: impl.EvFault, Code: 1, Text: "a"}} {
		if impl.Nested([]impl.Event{eventOf('s'), e}) {
			t.Errorf("Nested with %#v", e)
		}
	}
}

var (
	smallSeqRule = regexp.MustCompile(`qv*e`)
	smallMapRule = regexp.MustCompile(`m(?:vv)*e`)
	streamRule   = regexp.MustCompile(`^s(?:dvx)*z$`)
	startRule    = regexp.MustCompile(`^s(?:dvx)*(?:d(?:v|(?:[qm]v*)*))?f$`)
)

// nestedByRule takes each collection in which there are no others for a scalar, until there is none.
func nestedByRule(letters string) bool {
	for {
		next := smallMapRule.ReplaceAllString(smallSeqRule.ReplaceAllString(letters, "v"), "v")
		if next == letters {
			return streamRule.MatchString(letters) || startRule.MatchString(letters)
		}
		letters = next
	}
}

// P2: events are told to be well nested where they can be made a stream by putting its collections together.
func TestNestedOfManyLists(t *testing.T) {
	seen := map[bool]int{}
	check := func(letters string) {
		want := nestedByRule(letters)
		seen[want]++
		if got := impl.Nested(eventsOf(letters)); got != want {
			t.Fatalf("Nested of %q = %v", letters, got)
		}
	}
	eachText(strings.Split("sdqmvexzf", ""), 5, check)
	eachText(strings.Split("qmvef", ""), 7, func(within string) {
		check("sd" + within + "xz")
		check("sd" + within)
	})
	eachText([]string{"dvx", "d", "v", "x", "z", "f", "dqvvex"}, 5, func(within string) { check("s" + within) })
	if seen[true] < 1000 || seen[false] < 1000 {
		t.Errorf("nested and not nested: %v", seen)
	}
}

// nodesOf makes all nodes of at most that many events.
func nodesOf(most int) []string {
	if most < 1 {
		return nil
	}
	out := []string{"v"}
	for n := 0; n <= most-2; n++ {
		for _, l := range listsOf(n) {
			out = append(out, "q"+l.text+"e")
			if l.nodes%2 == 0 {
				out = append(out, "m"+l.text+"e")
			}
		}
	}
	return out
}

type nodeList struct {
	text  string
	nodes int
}

// listsOf makes all lists of nodes that have just so many events.
func listsOf(events int) []nodeList {
	if events == 0 {
		return []nodeList{{}}
	}
	var out []nodeList
	for _, first := range nodesOf(events) {
		for _, rest := range listsOf(events - len(first)) {
			out = append(out, nodeList{first + rest.text, 1 + rest.nodes})
		}
	}
	return out
}

// P2: what the grammar makes is nested, so is each beginning of it with a fault behind, and no other list is.
func TestNestedIsWhatTheGrammarMakes(t *testing.T) {
	made := map[string]bool{}
	add := func(stream string) {
		made[stream] = true
		for i := 1; i < len(stream); i++ {
			made[stream[:i]+"f"] = true
		}
	}
	// Streams of up to twelve events hold each beginning of up to five.
	add("sz")
	for _, node := range nodesOf(8) {
		add("sd" + node + "xz")
	}
	for _, one := range nodesOf(4) {
		for _, two := range nodesOf(3) {
			add("sd" + one + "xd" + two + "xz")
		}
	}
	add("sdvxdvxdvxz")
	for letters := range made {
		if !impl.Nested(eventsOf(letters)) {
			t.Fatalf("Nested of %q = false", letters)
		}
	}
	eachText(strings.Split("sdqmvexzf", ""), 6, func(letters string) {
		if impl.Nested(eventsOf(letters)) != made[letters] {
			t.Fatalf("Nested of %q = %v", letters, !made[letters])
		}
	})
}

// P2: the depth isn't Nested's to ask, nor is what an alias stands for.
func TestNestedAsksNoDepthAndNoNames(t *testing.T) {
	for _, n := range []int{39, 40, 41, 42, 1000} {
		checkNested(t, true, "sd"+strings.Repeat("q", n)+strings.Repeat("e", n)+"xz", "sd"+strings.Repeat("q", n)+"f")
		checkNested(t, false, "sd"+strings.Repeat("q", n)+strings.Repeat("e", n-1)+"xz", "sd"+strings.Repeat("q", n)+strings.Repeat("e", n+1)+"xz")
	}
	checkNested(t, true, "sdaxz", "sdqaaexz", "sdqQaeexdaxz")
}

func TestEventsLeaveTheirLists(t *testing.T) {
	for _, letters := range []string{"sdmvqaevvexz", "sdqvf", "s?!f", "sdqqq"} {
		l := eventsOf(letters)
		whole := append(slices.Clone(l), impl.Event{Kind: 77}, impl.Event{Kind: 78})
		part := whole[:len(l)]
		impl.EventsText(part)
		impl.Nested(part)
		if !slices.Equal(part, l) || whole[len(l)].Kind != 77 || whole[len(l)+1].Kind != 78 {
			t.Errorf("the events of %q were changed", letters)
		}
	}
}

func TestEventsKeepNothing(t *testing.T) {
	type answers struct {
		ok, nested bool
		line, text string
	}
	ask := func(letters string) answers {
		l := eventsOf(letters)
		return answers{impl.EventOk(l[0]), impl.Nested(l), impl.EventText(l[len(l)-1]), impl.EventsText(l)}
	}
	lists := []string{"sz", "sdqvf", "sdqqq", "f", "?", "sdmvvexz", "v", "sdm"}
	first := map[string]answers{}
	for _, letters := range lists {
		first[letters] = ask(letters)
	}
	for range 3 {
		slices.Reverse(lists)
		for _, letters := range lists {
			if got := ask(letters); got != first[letters] {
				t.Errorf("of %q now %#v, first %#v", letters, got, first[letters])
			}
		}
	}
}

func TestGreatEvents(t *testing.T) {
	const n = 300000
	deep := "sd" + strings.Repeat("q", n) + strings.Repeat("e", n) + "xz"
	pairs := "sdm" + strings.Repeat("vv", n) + "exz"
	checkNested(t, true, "sd"+strings.Repeat("m", n)+"f")
	for _, letters := range []string{deep, pairs, "s" + strings.Repeat("dvx", n) + "z"} {
		l := eventsOf(letters)
		if !impl.Nested(l) || impl.Nested(l[:len(l)-1]) {
			t.Errorf("Nested of %d events", len(l))
		}
		if lines := strings.Count(impl.EventsText(l), "\n"); lines != len(l) {
			t.Errorf("EventsText of %d events has %d lines", len(l), lines)
		}
	}
	text := strings.Repeat("a\\\n", n)
	e := impl.Event{Kind: impl.EvText, Style: impl.StLiteral, Text: text}
	if got := impl.EventText(e); got != "=VAL |"+strings.Repeat(`a\\\n`, n) {
		t.Errorf("EventText of a great text has %d bytes", len(got))
	}
}
