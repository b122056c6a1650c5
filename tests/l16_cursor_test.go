package tests

import (
	"fmt"
	"math/rand/v2"
	"slices"
	"strconv"
	"strings"
	"testing"

	"loop.example/g00666/impl"
)

// The texts of the tests by hand, with the places of their events.
const (
	// 0 +  1 (  2 -[  3 &a x  4 *a  5 [  6 b  7 c  8 ]  9 z  10 ]  11 )  12 =
	curPlain = "- &a x\n- *a\n- [b, c]\n- z\n"
	// 0 +  1 (  2 -[  3 &a x  4 &b [  5 *a  6 ]  7 &c [  8 *b  9 y  10 ]  11 *c  12 ]  13 )  14 =
	curChain = "- &a x\n- &b [*a]\n- &c [*b, y]\n- *c\n"
	// 0 +  1 (  2 -[  3 &a {  4 k  5 &b [  6 ]  7 }  8 *a  9 *b  10 {  11 *b  12 *a  13 }  14 ]  15 )  16 =
	curWithin = "- &a {k: &b []}\n- *a\n- *b\n- {*b : *a}\n"
	// 0 +  1 (  2 -[  3 &a [  4 x  5 ]  6 *a  7 [  8 b  9 {  10 c  11 d  12 fault
	curFault = "- &a [x]\n- *a\n- [b, {c: d"
	// 0 +  1 (  2 -[  3 &a x  4 &b [  5 *a  6 ]  7 &c [  8 *b  9 ]  10 &d [  11 *c  12 ]  13 &e [  14 *d  15 ]
	// 16 &f [  17 *e  18 ]  19 &g [  20 *f  21 ]  22 *g  23 ]  24 )  25 =
	curDeep = "- &a x\n- &b [*a]\n- &c [*b]\n- &d [*c]\n- &e [*d]\n- &f [*e]\n- &g [*f]\n- *g\n"
	// 0 +  1 (  2 a  3 )  4 (---  5 -[  6 b  7 ]  8 )...  9 =
	curDocs = "a\n---\n- b\n...\n"
	// 0 +  1 (  2 'a  3 fault
	curBehind = "'a' b"
	// 0 +  1 (  2 -[  3 a  4 ]  5 fault
	curBelow = "- a\nb"
)

// spot is where a cursor is.
type spot struct {
	at    int
	stack []int
}

// spotAt reads a spot: the aliases that were entered, the outermost first, and the place, with > between.
func spotAt(s string) spot {
	var l []int
	for _, word := range strings.Split(s, ">") {
		n, err := strconv.Atoi(word)
		if err != nil {
			panic(s)
		}
		l = append(l, n)
	}
	return spot{l[len(l)-1], l[:len(l)-1]}
}

func (p spot) String() string {
	s := ""
	for _, alias := range p.stack {
		s += fmt.Sprintf("%d>", alias)
	}
	return fmt.Sprint(s, p.at)
}

func spotOf(c impl.Cursor) spot { return spot{c.At, c.Stack} }

// cursorAt is a cursor that nothing but a spot was ever told.
func cursorAt(text string, p spot) impl.Cursor {
	return impl.Cursor{Text: text, At: p.at, Stack: slices.Clone(p.stack)}
}

func markOf(id int, p spot) impl.Mark {
	return impl.Mark{Id: id, At: p.at, Stack: slices.Clone(p.stack)}
}

func briefCursor(c impl.Cursor) string {
	s := fmt.Sprintf("%s of %.60q", spotOf(c), c.Text)
	for _, m := range c.Marks {
		s += fmt.Sprintf(" %d=%s", m.Id, spot{m.At, m.Stack})
	}
	return fmt.Sprint(s, " up to ", c.Last)
}

func alikeMarks(a, b impl.Mark) bool {
	return a.Id == b.Id && a.At == b.At && slices.Equal(a.Stack, b.Stack)
}

func alikeCursors(a, b impl.Cursor) bool {
	return a.Text == b.Text && a.At == b.At && slices.Equal(a.Stack, b.Stack) && slices.EqualFunc(a.Marks, b.Marks, alikeMarks) && a.Last == b.Last
}

func cloneCursor(c impl.Cursor) impl.Cursor {
	c.Stack, c.Marks = slices.Clone(c.Stack), slices.Clone(c.Marks)
	for i := range c.Marks {
		c.Marks[i].Stack = slices.Clone(c.Marks[i].Stack)
	}
	return c
}

// moves are the four calls that go on.
var moves = []struct {
	name string
	call func(impl.Cursor) (impl.Cursor, impl.Answer)
}{
	{"CurNext", impl.CurNext}, {"CurEnter", impl.CurEnter}, {"CurLeave", impl.CurLeave}, {"CurSkip", impl.CurSkip},
}

// checkMove makes a call, and holds what it answers against what it should.
func checkMove(t *testing.T, move int, c, want impl.Cursor, wantAnswer impl.Answer) {
	t.Helper()
	got, a := moves[move].call(c)
	if !alikeCursors(got, want) || a != wantAnswer {
		t.Errorf("%s at %s is at %s with %+v, not at %s with %+v", moves[move].name, briefCursor(c), briefCursor(got), a, briefCursor(want), wantAnswer)
	}
	if !impl.CursorOk(got) {
		t.Errorf("%s at %s is at %s, which isn't right", moves[move].name, briefCursor(c), briefCursor(got))
	}
}

// curCase is a call at a spot: where it comes, the code, and the place of the event that it tells, -1 for none.
type curCase struct {
	text, from, to string
	code, told     int
}

func checkMoves(t *testing.T, move int, l []curCase) {
	t.Helper()
	for _, k := range l {
		a := impl.Answer{Code: k.code}
		if k.told >= 0 {
			a.Event = impl.Parse(k.text)[k.told]
		}
		from, to := spotAt(k.from), spotAt(k.to)
		c, want := cursorAt(k.text, from), cursorAt(k.text, to)
		checkMove(t, move, c, want, a)
		// Marks and Last are handed on, and change nothing else.
		c.Marks = []impl.Mark{markOf(1, from), markOf(7, spot{at: 1}), markOf(8, to)}
		c.Last = 9
		want.Marks, want.Last = cloneCursor(c).Marks, 9
		checkMove(t, move, c, want, a)
		c.Marks, c.Last = nil, impl.MaxNum
		want.Marks, want.Last = nil, impl.MaxNum
		checkMove(t, move, c, want, a)
	}
}

// checkWrongCursor: all calls answer code 1, and nothing else.
func checkWrongCursor(t *testing.T, c impl.Cursor) {
	t.Helper()
	if impl.CursorOk(c) {
		t.Errorf("%s should not be right", briefCursor(c))
	}
	if a := impl.CurEvent(c); a != (impl.Answer{Code: 1}) {
		t.Errorf("CurEvent at %s is %+v", briefCursor(c), a)
	}
	for _, move := range moves {
		if got, a := move.call(c); !alikeCursors(got, impl.Cursor{}) || a != (impl.Answer{Code: 1}) {
			t.Errorf("%s at %s is at %s with %+v", move.name, briefCursor(c), briefCursor(got), a)
		}
	}
}

// checkRightCursor: CurEvent tells the event, and no call says code 1.
func checkRightCursor(t *testing.T, c impl.Cursor) {
	t.Helper()
	if !impl.CursorOk(c) {
		t.Errorf("%s should be right", briefCursor(c))
		return
	}
	want := impl.Answer{Event: impl.Parse(c.Text)[c.At]}
	if want.Event.Kind == impl.EvFault {
		want.Code = 3
	}
	if a := impl.CurEvent(c); a != want {
		t.Errorf("CurEvent at %s is %+v, not %+v", briefCursor(c), a, want)
	}
	for _, move := range moves {
		if got, a := move.call(c); a.Code == 1 || got.Text != c.Text || got.Last != c.Last || !slices.EqualFunc(got.Marks, c.Marks, alikeMarks) || !impl.CursorOk(got) {
			t.Errorf("%s at %s is at %s with %+v", move.name, briefCursor(c), briefCursor(got), a)
		}
	}
}

func checkSpots(t *testing.T, text string, right, wrong []string) {
	t.Helper()
	for _, s := range right {
		c := cursorAt(text, spotAt(s))
		checkRightCursor(t, c)
		// The same with lists that are empty, not nil.
		c.Marks = []impl.Mark{}
		if len(c.Stack) == 0 {
			c.Stack = []int{}
		}
		checkRightCursor(t, c)
		// And as a mark.
		c = impl.CurOpen(text)
		c.Marks, c.Last = []impl.Mark{markOf(1, spotAt(s))}, 1
		checkRightCursor(t, c)
	}
	for _, s := range wrong {
		checkWrongCursor(t, cursorAt(text, spotAt(s)))
		// In a mark it is as wrong, wherever the mark stands.
		c := impl.CurOpen(text)
		c.Last = 3
		for i := range 3 {
			c.Marks = []impl.Mark{{Id: 1}, {Id: 2, At: 1}, {Id: 3}}
			c.Marks[i] = markOf(i+1, spotAt(s))
			checkWrongCursor(t, c)
		}
		c.Marks = []impl.Mark{markOf(3, spotAt(s))}
		checkWrongCursor(t, c)
	}
}

func TestCursorConstants(t *testing.T) {
	if impl.MaxReplay != 6 || impl.MaxMarks != 10 {
		t.Errorf("MaxReplay is %d, MaxMarks %d", impl.MaxReplay, impl.MaxMarks)
	}
}

// P9: a place is one of the stream's.
func TestCursorOkPlaces(t *testing.T) {
	for _, k := range []struct {
		text string
		last int
	}{
		{curPlain, 12}, {curChain, 14}, {curFault, 12}, {curDocs, 9}, {curBehind, 3}, {"", 1}, {"%", 1}, {"# r\n", 1},
	} {
		last := fmt.Sprint(k.last)
		checkSpots(t, k.text, []string{"0", "1", last}, []string{fmt.Sprint(k.last + 1), fmt.Sprint(k.last + 2), "-1", "-2", fmt.Sprint(lowest), fmt.Sprint(highest), "4294967296", "-4294967296"})
	}
}

// P9: the elements of the stack are aliases, each within the node of the one ahead, and there are at most so many.
func TestCursorOkStacks(t *testing.T) {
	checkSpots(t, curPlain,
		[]string{"4", "4>3"},
		[]string{
			// The place isn't within the replay.
			"4>2", "4>4", "4>5", "4>0", "4>12", "4>13", "4>-1", fmt.Sprint("4>", lowest), fmt.Sprint("4>", highest),
			// No alias, and no place.
			"0>0", "0>3", "1>3", "2>3", "3>3", "5>3", "5>5", "8>3", "11>3", "12>3", "12>12", "13>3", "-1>3", "-1>0", fmt.Sprint(lowest, ">3"), fmt.Sprint(highest, ">3"),
			// An alias that isn't within the replay of the one ahead.
			"4>4>3", "4>3>3", "3>4>3", "4>13>3",
		})
	checkSpots(t, curChain,
		[]string{"5>3", "8>4", "8>5", "8>6", "8>5>3", "11>7", "11>8", "11>9", "11>10", "11>8>4", "11>8>5", "11>8>6", "11>8>5>3"},
		[]string{"8>3", "8>7", "8>8", "11>6", "11>11", "11>3", "11>4", "5>8>4", "8>8>4", "11>5>3", "11>11>7", "8>11>8", "11>8>3", "11>8>7", "11>8>9", "11>9>9", "11>7>8", "11>5>8>4", "11>8>8>4", "11>8>5>5", "11>8>5>4", "11>8>5>3>3", "5>8>11", "8>11", "5>8>11>7", "11>-1>4", "11>15>4"})
	checkSpots(t, curWithin,
		[]string{"8>3", "8>4", "8>5", "8>6", "8>7", "9>5", "9>6", "11>5", "12>3", "12>7"},
		[]string{"8>2", "8>8", "9>4", "9>7", "11>4", "11>7", "12>2", "12>8", "8>9>5", "8>11>5", "11>12>3", "10>3", "10>11"})
	checkSpots(t, curFault,
		[]string{"6>3", "6>4", "6>5", "12"},
		[]string{"6>2", "6>6", "6>12", "7>8", "12>12", "2>6>3"})
	// Another node has the name within the first one.
	checkSpots(t, "- &a [&a x, *a]\n- *a\n", []string{"5>4", "7>4"}, []string{"5>3", "5>5", "7>3", "7>5", "7>6", "7>5>4", "7>7>4"})
	// As many aliases as there may be, and one more.
	checkSpots(t, curDeep,
		[]string{"22>20>17>14>11>8", "22>20>17>14>11>8>4", "22>20>17>14>11>8>5", "22>20>17>14>11>8>6", "20>17>14>11>8>5>3", "17>14>11>8>5>3"},
		[]string{"22>20>17>14>11>8>5>3", "22>20>17>14>11>8>3", "22>20>17>14>11>8>7", "22>22>20>17>14>11>8", "22>20>17>14>11>8>5>3>3"})
}

// P9: a text of which no more than a fault is told can be gone over like another.
func TestCursorOkTexts(t *testing.T) {
	for _, k := range []struct {
		text     string
		code, at int
	}{
		{strings.Repeat("a", impl.MaxText+1), 1, impl.MaxText + 1}, {strings.Repeat("- &a b\n- *a\n", impl.MaxText/4), 1, impl.MaxText * 3}, {"- &a b\n- *a\n\x00", 1, 12}, {"\xff", 1, 0}, {"a\r\n", 1, 1}, {"%", 13, 0},
	} {
		checkSpots(t, k.text, []string{"0", "1"}, []string{"2", "-1", "3>2", "4>3", "1>1", "0>0"})
		c, a := impl.CurNext(impl.CurOpen(k.text))
		if a != (impl.Answer{Event: impl.Event{Kind: impl.EvStream}}) {
			t.Errorf("of %.20q is first told %+v", k.text, a)
		}
		if a = impl.CurEvent(c); a != (impl.Answer{Code: 3, Event: impl.Event{Kind: impl.EvFault, Code: k.code, At: k.at}}) {
			t.Errorf("of %.20q is then told %+v", k.text, a)
		}
	}
	checkSpots(t, strings.Repeat("#", impl.MaxText), []string{"0", "1"}, []string{"2"})
}

// P9: how great the last number given to a mark may be.
func TestCursorOkLast(t *testing.T) {
	for _, p := range []string{"0", "4", "4>3", "12"} {
		c := cursorAt(curPlain, spotAt(p))
		for _, c.Last = range []int{0, 1, 2, impl.MaxNum - 1, impl.MaxNum} {
			checkRightCursor(t, c)
		}
		for _, c.Last = range []int{-1, -2, impl.MaxNum + 1, impl.MaxNum + 2, -impl.MaxNum, lowest, highest} {
			checkWrongCursor(t, c)
		}
	}
}

// P9: how many marks there may be, and of what numbers.
func TestCursorOkMarks(t *testing.T) {
	with := func(last int, ids ...int) impl.Cursor {
		c := cursorAt(curPlain, spot{at: 4})
		c.Last = last
		for _, id := range ids {
			c.Marks = append(c.Marks, impl.Mark{Id: id, At: 3, Stack: []int{4}})
		}
		return c
	}
	ten := []int{1, 2, 3, 4, 5, 6, 7, 8, 9, 10}
	for _, c := range []impl.Cursor{
		// None, one, some, as many as there may be.
		with(0), with(5), with(1, 1), with(2, 1), with(2, 2), with(3, 1, 3), with(10, ten...), with(20, ten...), with(99, 1, 5, 7, 98, 99), with(11, 2, 3, 4, 5, 6, 7, 8, 9, 10, 11),
		with(impl.MaxNum, impl.MaxNum), with(impl.MaxNum, 1, impl.MaxNum-1, impl.MaxNum),
	} {
		checkRightCursor(t, c)
	}
	for _, c := range []impl.Cursor{
		// One more than there may be.
		with(11, append(ten, 11)...), with(99, append(ten, 99)...), with(12, append(ten, 11, 12)...),
		// One that is nothing, below it, or above Last.
		with(0, 0), with(5, 0), with(5, 0, 1), with(5, -1), with(5, -1, 1), with(5, lowest), with(5, lowest, 5), with(0, 1), with(1, 2), with(5, 6), with(5, 1, 6), with(5, 4, 5, 6), with(9, ten...), with(5, highest), with(impl.MaxNum, impl.MaxNum+1), with(impl.MaxNum, highest), with(impl.MaxNum+1, impl.MaxNum+1), with(highest, highest), with(-1, -1), with(-1, -2),
		// They don't rise.
		with(5, 1, 1), with(5, 5, 5), with(5, 2, 1), with(5, 1, 3, 2), with(5, 1, 3, 3), with(5, 1, 2, 1), with(5, 2, 2, 3), with(5, 3, 1, 2), with(5, 1, 0), with(5, 1, -1, 2), with(20, 1, 2, 3, 4, 5, 6, 7, 8, 9, 9),
	} {
		checkWrongCursor(t, c)
	}
}

// P9: a cursor at the beginning of any text.
func TestCurOpen(t *testing.T) {
	for _, text := range []string{"", "a", curPlain, curFault, "%", "\x00", "\xff\xfe", "a\r", " ", "\n", "[", strings.Repeat("a", impl.MaxText), strings.Repeat("a", impl.MaxText+1)} {
		c := impl.CurOpen(text)
		if !alikeCursors(c, impl.Cursor{Text: text}) {
			t.Errorf("CurOpen(%.20q) is %s", text, briefCursor(c))
		}
		checkRightCursor(t, c)
		if a := impl.CurEvent(c); a != (impl.Answer{Event: impl.Event{Kind: impl.EvStream}}) {
			t.Errorf("at the beginning of %.20q is told %+v", text, a)
		}
	}
}

// P9: the event at which a cursor stands.
func TestCurEvent(t *testing.T) {
	text := "- &a !t 'x'\n- *a\n- &b {k: |\n\n}\n"
	for _, k := range []struct {
		text, at string
		want     impl.Answer
	}{
		{curPlain, "0", impl.Answer{Event: impl.Event{Kind: impl.EvStream}}},
		{curPlain, "1", impl.Answer{Event: impl.Event{Kind: impl.EvDoc}}},
		{curDocs, "4", impl.Answer{Event: impl.Event{Kind: impl.EvDoc, Flag: true}}},
		{curPlain, "2", impl.Answer{Event: impl.Event{Kind: impl.EvSeq, Style: impl.StBlock}}},
		{curPlain, "3", impl.Answer{Event: impl.Event{Kind: impl.EvText, Style: impl.StPlain, Text: "x", Anchor: "a"}}},
		{curPlain, "4", impl.Answer{Event: impl.Event{Kind: impl.EvAlias, Text: "a"}}},
		{curPlain, "4>3", impl.Answer{Event: impl.Event{Kind: impl.EvText, Style: impl.StPlain, Text: "x", Anchor: "a"}}},
		{curWithin, "3", impl.Answer{Event: impl.Event{Kind: impl.EvMap, Style: impl.StFlow, Anchor: "a"}}},
		{curWithin, "8>7", impl.Answer{Event: impl.Event{Kind: impl.EvEnd}}},
		{curDeep, "22>20>17>14>11>8>5", impl.Answer{Event: impl.Event{Kind: impl.EvAlias, Text: "a"}}},
		{curDocs, "3", impl.Answer{Event: impl.Event{Kind: impl.EvDocEnd}}},
		{curDocs, "8", impl.Answer{Event: impl.Event{Kind: impl.EvDocEnd, Flag: true}}},
		{curDocs, "9", impl.Answer{Event: impl.Event{Kind: impl.EvStreamEnd}}},
		{text, "3", impl.Answer{Event: impl.Event{Kind: impl.EvText, Style: impl.StSingle, Text: "x", Tag: "!t", Anchor: "a"}}},
		{curFault, "11", impl.Answer{Event: impl.Event{Kind: impl.EvText, Style: impl.StPlain, Text: "d"}}},
		{curFault, "12", impl.Answer{Code: 3, Event: impl.Event{Kind: impl.EvFault, Code: 3, At: 25}}},
		{curBehind, "3", impl.Answer{Code: 3, Event: impl.Event{Kind: impl.EvFault, Code: 8, At: 4}}},
		{curPlain, "13", impl.Answer{Code: 1}},
		{curPlain, "4>4", impl.Answer{Code: 1}},
		{curFault, "13", impl.Answer{Code: 1}},
		{"", "2", impl.Answer{Code: 1}},
	} {
		if a := impl.CurEvent(cursorAt(k.text, spotAt(k.at))); a != k.want {
			t.Errorf("CurEvent at %s of %q is %+v, not %+v", k.at, k.text, a, k.want)
		}
	}
}

// P9: event after event.
func TestCurNext(t *testing.T) {
	checkMoves(t, 0, []curCase{
		// Each kind of an event; an alias is gone over like a scalar.
		{curPlain, "0", "1", 0, 0}, {curPlain, "1", "2", 0, 1}, {curPlain, "2", "3", 0, 2}, {curPlain, "3", "4", 0, 3}, {curPlain, "4", "5", 0, 4}, {curPlain, "5", "6", 0, 5}, {curPlain, "8", "9", 0, 8}, {curPlain, "10", "11", 0, 10}, {curPlain, "11", "12", 0, 11}, {curWithin, "10", "11", 0, 10}, {curDocs, "3", "4", 0, 3},
		// The end: it stays.
		{curPlain, "12", "12", 0, 12}, {curDocs, "9", "9", 0, 9}, {"", "0", "1", 0, 0}, {"", "1", "1", 0, 1},
		// The fault: up to it, and then it stays.
		{curFault, "11", "12", 0, 11}, {curFault, "12", "12", 3, 12}, {curBehind, "2", "3", 0, 2}, {curBehind, "3", "3", 3, 3}, {curBelow, "5", "5", 3, 5}, {"%", "0", "1", 0, 0}, {"%", "1", "1", 3, 1},
		// Within a replay.
		{curWithin, "8>3", "8>4", 0, 3}, {curWithin, "8>5", "8>6", 0, 5}, {curWithin, "8>6", "8>7", 0, 6}, {curWithin, "9>5", "9>6", 0, 5}, {curChain, "11>8", "11>9", 0, 8}, {curChain, "11>8>4", "11>8>5", 0, 4}, {curChain, "11>8>5", "11>8>6", 0, 5},
		// The last event of a replay: behind its alias.
		{curPlain, "4>3", "5", 0, 3}, {curWithin, "8>7", "9", 0, 7}, {curWithin, "9>6", "10", 0, 6}, {curWithin, "11>6", "12", 0, 6}, {curWithin, "12>7", "13", 0, 7}, {curFault, "6>5", "7", 0, 5}, {curChain, "11>10", "12", 0, 10},
		// The last event of one replay within another.
		{curChain, "8>5>3", "8>6", 0, 3}, {curChain, "11>8>6", "11>9", 0, 6}, {curChain, "11>8>5>3", "11>8>6", 0, 3}, {curDeep, "22>20>17>14>11>8>6", "22>20>17>14>11>9", 0, 6}, {curDeep, "20>17>14>11>8>5>3", "20>17>14>11>8>6", 0, 3},
	})
}

// P9: into collections and aliases.
func TestCurEnter(t *testing.T) {
	checkMoves(t, 1, []curCase{
		// Collections, in a replay too, and ones that aren't ended.
		{curPlain, "2", "3", 0, 2}, {curPlain, "5", "6", 0, 5}, {curWithin, "3", "4", 0, 3}, {curWithin, "5", "6", 0, 5}, {curWithin, "10", "11", 0, 10}, {curWithin, "8>3", "8>4", 0, 3}, {curWithin, "9>5", "9>6", 0, 5}, {curChain, "11>8>4", "11>8>5", 0, 4}, {curFault, "7", "8", 0, 7}, {curFault, "9", "10", 0, 9}, {"- [", "3", "4", 0, 3},
		// Aliases of each kind of a node.
		{curPlain, "4", "4>3", 0, 4}, {curChain, "8", "8>4", 0, 8}, {curWithin, "8", "8>3", 0, 8}, {curWithin, "9", "9>5", 0, 9}, {curWithin, "11", "11>5", 0, 11}, {curWithin, "12", "12>3", 0, 12}, {curFault, "6", "6>3", 0, 6}, {"- &a\n- *a\n", "4", "4>3", 0, 4}, {"- &a [&a x, *a]\n- *a\n", "7", "7>4", 0, 7}, {"- &a x\n- &a y\n- *a\n", "5", "5>4", 0, 5}, {"&a x\n--- [&a y, *a]\n", "7", "7>6", 0, 7},
		// Aliases within replays.
		{curChain, "8>5", "8>5>3", 0, 5}, {curChain, "11>8", "11>8>4", 0, 8}, {curChain, "11>8>5", "11>8>5>3", 0, 5}, {curDeep, "22>20>17>14>11", "22>20>17>14>11>7", 0, 11}, {curDeep, "22>20>17>14>11>8", "22>20>17>14>11>8>4", 0, 8}, {curDeep, "20>17>14>11>8>5", "20>17>14>11>8>5>3", 0, 5},
		// One more than there may be.
		{curDeep, "22>20>17>14>11>8>5", "22>20>17>14>11>8>5", 4, -1},
		// In a full stack a collection can be entered.
		{curDeep, "22>20>17>14>11>8>4", "22>20>17>14>11>8>5", 0, 4},
		// The fault.
		{curFault, "12", "12", 3, 12}, {curBehind, "3", "3", 3, 3}, {"%", "1", "1", 3, 1},
		// Nothing that could be entered.
		{curPlain, "0", "0", 2, -1}, {curPlain, "1", "1", 2, -1}, {curPlain, "3", "3", 2, -1}, {curPlain, "6", "6", 2, -1}, {curPlain, "8", "8", 2, -1}, {curPlain, "10", "10", 2, -1}, {curPlain, "11", "11", 2, -1}, {curPlain, "12", "12", 2, -1}, {curPlain, "4>3", "4>3", 2, -1}, {curWithin, "8>4", "8>4", 2, -1}, {curWithin, "8>7", "8>7", 2, -1}, {curDeep, "20>17>14>11>8>5>3", "20>17>14>11>8>5>3", 2, -1}, {curDeep, "22>20>17>14>11>8>6", "22>20>17>14>11>8>6", 2, -1}, {"", "1", "1", 2, -1},
	})
}

// P9: out of collections and aliases.
func TestCurLeave(t *testing.T) {
	checkMoves(t, 2, []curCase{
		// In a collection: at its first member, its last, its end, an alias, a collection in it.
		{curPlain, "3", "11", 0, 10}, {curPlain, "4", "11", 0, 10}, {curPlain, "5", "11", 0, 10}, {curPlain, "6", "9", 0, 8}, {curPlain, "7", "9", 0, 8}, {curPlain, "8", "9", 0, 8}, {curPlain, "9", "11", 0, 10}, {curPlain, "10", "11", 0, 10}, {curWithin, "4", "8", 0, 7}, {curWithin, "5", "8", 0, 7}, {curWithin, "6", "7", 0, 6}, {curWithin, "7", "8", 0, 7}, {curWithin, "11", "14", 0, 13}, {curDocs, "6", "8", 0, 7}, {curBelow, "3", "5", 0, 4}, {curBelow, "4", "5", 0, 4},
		// In a collection within a replay.
		{curWithin, "8>6", "8>7", 0, 6}, {curWithin, "12>6", "12>7", 0, 6}, {"- &a [[x], y]\n- *a\n", "9>5", "9>7", 0, 6},
		// In the collection that is the replay.
		{curWithin, "8>4", "9", 0, 7}, {curWithin, "8>5", "9", 0, 7}, {curWithin, "8>7", "9", 0, 7}, {curWithin, "9>6", "10", 0, 6}, {curChain, "11>8", "12", 0, 10}, {curChain, "11>9", "12", 0, 10}, {curChain, "11>8>5", "11>9", 0, 6}, {curChain, "11>8>6", "11>9", 0, 6}, {curDeep, "22>20>17>14>11>8>5", "22>20>17>14>11>9", 0, 6}, {curFault, "6>4", "7", 0, 5}, {curFault, "6>5", "7", 0, 5},
		// At the node of the replay: what is around it is outside.
		{curPlain, "4>3", "5", 0, 4}, {curWithin, "8>3", "9", 0, 8}, {curWithin, "9>5", "10", 0, 9}, {curWithin, "11>5", "12", 0, 11}, {curWithin, "12>3", "13", 0, 12}, {curChain, "8>5>3", "8>6", 0, 5}, {curChain, "11>7", "12", 0, 11}, {curChain, "11>8>4", "11>9", 0, 8}, {curChain, "11>8>5>3", "11>8>6", 0, 5}, {curDeep, "20>17>14>11>8>5>3", "20>17>14>11>8>6", 0, 5}, {curFault, "6>3", "7", 0, 6},
		// At the top.
		{curPlain, "0", "0", 2, -1}, {curPlain, "1", "1", 2, -1}, {curPlain, "2", "2", 2, -1}, {curPlain, "11", "11", 2, -1}, {curPlain, "12", "12", 2, -1}, {curDocs, "2", "2", 2, -1}, {curDocs, "3", "3", 2, -1}, {curDocs, "4", "4", 2, -1}, {curDocs, "5", "5", 2, -1}, {curBehind, "2", "2", 2, -1}, {curFault, "2", "2", 2, -1}, {"", "0", "0", 2, -1}, {"", "1", "1", 2, -1},
		// In a collection that isn't ended.
		{curFault, "3", "12", 3, 12}, {curFault, "6", "12", 3, 12}, {curFault, "7", "12", 3, 12}, {curFault, "8", "12", 3, 12}, {curFault, "10", "12", 3, 12}, {curFault, "11", "12", 3, 12}, {curFault, "4", "6", 0, 5}, {curFault, "5", "6", 0, 5}, {"- [", "3", "4", 3, 4},
		// At the fault, in a collection and in none.
		{curFault, "12", "12", 3, 12}, {curBehind, "3", "3", 3, 3}, {curBelow, "5", "5", 3, 5}, {"%", "1", "1", 3, 1},
	})
}

// P9: over nodes.
func TestCurSkip(t *testing.T) {
	checkMoves(t, 3, []curCase{
		// Scalars, collections, aliases; as a document's node too.
		{curPlain, "3", "4", 0, 3}, {curPlain, "9", "10", 0, 9}, {curPlain, "5", "9", 0, 5}, {curPlain, "2", "11", 0, 2}, {curPlain, "4", "5", 0, 4}, {curWithin, "3", "8", 0, 3}, {curWithin, "5", "7", 0, 5}, {curWithin, "10", "14", 0, 10}, {curWithin, "12", "13", 0, 12}, {curDocs, "2", "3", 0, 2}, {curDocs, "5", "8", 0, 5}, {curBehind, "2", "3", 0, 2}, {curBelow, "2", "5", 0, 2}, {curChain, "11", "12", 0, 11},
		// Within replays.
		{curWithin, "8>4", "8>5", 0, 4}, {curWithin, "8>5", "8>7", 0, 5}, {curChain, "11>8", "11>9", 0, 8}, {curChain, "11>8>5", "11>8>6", 0, 5}, {curDeep, "22>20>17>14>11>8>5", "22>20>17>14>11>8>6", 0, 5},
		// The last node of a replay, which is all of it.
		{curPlain, "4>3", "5", 0, 3}, {curWithin, "8>3", "9", 0, 3}, {curWithin, "9>5", "10", 0, 5}, {curWithin, "11>5", "12", 0, 5}, {curWithin, "12>3", "13", 0, 3}, {curChain, "8>5>3", "8>6", 0, 3}, {curChain, "11>7", "12", 0, 7}, {curChain, "11>8>4", "11>9", 0, 4}, {curFault, "6>3", "7", 0, 3}, {curDeep, "20>17>14>11>8>5>3", "20>17>14>11>8>6", 0, 3},
		// A collection that isn't ended.
		{curFault, "2", "12", 3, 12}, {curFault, "7", "12", 3, 12}, {curFault, "9", "12", 3, 12}, {"- [", "3", "4", 3, 4}, {"- [", "2", "4", 3, 4},
		// Nodes ahead of a fault that are ended.
		{curFault, "3", "6", 0, 3}, {curFault, "6", "7", 0, 6}, {curFault, "8", "9", 0, 8}, {curFault, "11", "12", 0, 11},
		// The fault.
		{curFault, "12", "12", 3, 12}, {curBehind, "3", "3", 3, 3}, {"%", "1", "1", 3, 1},
		// No node.
		{curPlain, "0", "0", 2, -1}, {curPlain, "1", "1", 2, -1}, {curPlain, "8", "8", 2, -1}, {curPlain, "10", "10", 2, -1}, {curPlain, "11", "11", 2, -1}, {curPlain, "12", "12", 2, -1}, {curDocs, "4", "4", 2, -1}, {curDocs, "8", "8", 2, -1}, {curWithin, "8>6", "8>6", 2, -1}, {curWithin, "8>7", "8>7", 2, -1}, {curChain, "11>8>6", "11>8>6", 2, -1}, {"", "1", "1", 2, -1},
	})
}

// scene is a stream that a cursor goes over, with what there is to tell of its nodes.
type scene struct {
	text string
	l    []impl.Event
	a    nestAnswers
}

func sceneOf(text string) scene {
	l := impl.Parse(text)
	return scene{text, l, nestByRule(l, true)}
}

// eachSpot unrolls the stream: each event, and behind each alias those of its node, as deep as may be.
func (s scene) eachSpot(f func(spot)) {
	var unroll func(from, to int, stack []int)
	unroll = func(from, to int, stack []int) {
		for at := from; at <= to; at++ {
			f(spot{at, stack})
			if def := s.a.defs[at]; def > 0 && len(stack) < impl.MaxReplay {
				unroll(def, s.a.ends[def], append(slices.Clone(stack), at))
			}
		}
	}
	unroll(0, len(s.l)-1, nil)
}

// following tells the spots from one on to the end of the stream, not going into any alias any more.
func (s scene) following(p spot) []spot {
	var out []spot
	at := p.at
	for stack := p.stack; ; stack = stack[:len(stack)-1] {
		last := len(s.l) - 1
		if len(stack) > 0 {
			last = s.a.ends[s.a.defs[stack[len(stack)-1]]]
		}
		for ; at <= last; at++ {
			out = append(out, spot{at, stack})
		}
		if len(stack) == 0 {
			return out
		}
		at = stack[len(stack)-1] + 1
	}
}

// turn is what a call answers: where it comes, the code, and the place of the event that it tells, -1 for none.
type turn struct {
	to         spot
	code, told int
}

func (s scene) toFault() turn {
	last := len(s.l) - 1
	return turn{spot{at: last}, 3, last}
}

func (s scene) nextByRule(p spot) turn {
	l := s.following(p)
	if len(l) == 1 {
		return turn{p, 0, p.at}
	}
	return turn{l[1], 0, p.at}
}

func (s scene) enterByRule(p spot) turn {
	switch {
	case isCollection(s.l[p.at]):
		return s.nextByRule(p)
	case s.l[p.at].Kind != 6:
		return turn{p, 2, -1}
	case len(p.stack) == 6:
		return turn{p, 4, -1}
	}
	return turn{spot{s.a.defs[p.at], append(slices.Clone(p.stack), p.at)}, 0, p.at}
}

// leaveByRule goes on up to an end of what was begun ahead of p, or to where one alias less is entered.
func (s scene) leaveByRule(p spot) turn {
	l := s.following(p)
	open := 0
	for i, q := range l {
		if len(q.stack) < len(p.stack) {
			return turn{q, 0, p.stack[len(p.stack)-1]}
		}
		switch {
		case s.l[q.at].Kind == 7 && open == 0:
			return turn{l[i+1], 0, q.at}
		case s.l[q.at].Kind == 7:
			open--
		case isCollection(s.l[q.at]):
			open++
		case s.l[q.at].Kind == 10 && s.a.ups[p.at] >= 0:
			return s.toFault()
		}
	}
	return turn{p, 2, -1}
}

func (s scene) skipByRule(p spot) turn {
	end := s.a.ends[p.at]
	switch {
	case !isNode(s.l[p.at]):
		return turn{p, 2, -1}
	case end < 0:
		return s.toFault()
	}
	return turn{s.following(p)[end-p.at+1], 0, p.at}
}

// moveByRule is the second telling of the four calls, at a spot that is right.
func (s scene) moveByRule(move int, p spot) turn {
	if s.l[p.at].Kind == 10 {
		return s.toFault()
	}
	return []func(spot) turn{s.nextByRule, s.enterByRule, s.leaveByRule, s.skipByRule}[move](p)
}

// checkTurn makes a call at a cursor, and answers where that comes. What came up is counted.
func (s scene) checkTurn(t *testing.T, move int, c impl.Cursor, met map[string]int) impl.Cursor {
	t.Helper()
	by := s.moveByRule(move, spotOf(c))
	want, a := cloneCursor(c), impl.Answer{Code: by.code}
	want.At, want.Stack = by.to.at, by.to.stack
	if by.told >= 0 {
		a.Event = s.l[by.told]
	}
	checkMove(t, move, c, want, a)
	met[fmt.Sprint(moves[move].name, " ", by.code)]++
	if len(by.to.stack) < len(c.Stack) {
		met[moves[move].name+" out of a replay"]++
	}
	if len(c.Stack) > 1 {
		met[moves[move].name+" within replays"]++
	}
	return want
}

// checkScene makes each call at each spot of a stream.
func checkScene(t *testing.T, text string, met map[string]int) {
	t.Helper()
	s := sceneOf(text)
	s.eachSpot(func(p spot) {
		c := cursorAt(text, p)
		for move := range moves {
			s.checkTurn(t, move, c, met)
		}
		want := impl.Answer{Event: s.l[p.at]}
		if want.Event.Kind == 10 {
			want.Code = 3
		}
		if a := impl.CurEvent(c); a != want {
			t.Errorf("CurEvent at %s is %+v, not %+v", briefCursor(c), a, want)
		}
	})
}

func wantCounts(t *testing.T, met map[string]int, least int, words ...string) {
	t.Helper()
	for _, word := range words {
		if met[word] < least {
			t.Errorf("%s was met %d times", word, met[word])
		}
	}
}

var allTurns = []string{
	"CurNext 0", "CurNext 3", "CurEnter 0", "CurEnter 2", "CurEnter 3", "CurLeave 0", "CurLeave 2", "CurLeave 3", "CurSkip 0", "CurSkip 2", "CurSkip 3",
	"CurNext out of a replay", "CurLeave out of a replay", "CurSkip out of a replay",
	"CurNext within replays", "CurEnter within replays", "CurLeave within replays", "CurSkip within replays",
}

// scenesByHand has streams of no document, one, several; of all kinds of nodes in one another, with aliases in all places, and with faults.
func scenesByHand() []string {
	return []string{
		curPlain, curChain, curWithin, curFault, curDocs, curBehind, curBelow,
		"", "# r\n", "a", "---\n", "a\n---\nb\n--- c\n", "[]", "{}", "- - - a\n", "a: {b: [c, {}, []]}\n", "'a'\n...\n%YAML 1.2\n--- |\n b\n",
		"%", "[", "- [", "{a: ", "- a\n- 'b", "*x", "- &a [*a]\n", "a\n--- [&a x, *a, *b]\n", "[&a [x], *a]]", "&a x\n--- *a\n", "- &a x\n\t- *a\n", "\x00",
		"[&a x, *a, *a]", "{&a x : *a, *a : {y: *a}}", "- &a\n- *a\n- &a [*a, *a]\n- *a\n- [*a]\n", "- &a [&b [&c x, *c], *b, {*c : *b}]\n- *a\n- *b\n- *c\n--- [&a y, *a]\n", "- &a [&a x, *a]\n- *a\n",
		"- &a [x]\n- &b [*a, *a]\n- &c [*b, *b]\n- &d {*c : *b, *a : *c}\n- *d\n", "- &a []\n- &b {k: *a}\n- &c [[*b]]\n- [*c, [*c, z", "&a {b: &b c, d: *b}\n---\n&a [&b {}, *b]\n--- {x: &a y, z: [*a]",
	}
}

// P9: each call at each spot of streams of all kinds.
func TestCursorScenes(t *testing.T) {
	met := map[string]int{}
	for _, text := range scenesByHand() {
		checkScene(t, text, met)
	}
	checkScene(t, curDeep, met)
	wantCounts(t, met, 5, allTurns...)
	wantCounts(t, met, 1, "CurEnter 4")
}

// P9: each call at each spot of many texts.
func TestCursorManyTexts(t *testing.T) {
	met := map[string]int{}
	eachText([]string{"[", "], ", "&a x, ", "&a {", "*a ", ": *a, ", "}, "}, 4, func(s string) { checkScene(t, "[&a [x], "+s, met) })
	eachText([]string{"- &a x\n", "- &b [*a]\n", "- &a [*b, y]\n", "- *a\n", "- *b\n", "- ['\n", "---\n"}, 4, func(s string) { checkScene(t, s, met) })
	wantCounts(t, met, 20, allTurns...)
}

// P9: which places and stacks are right, of all small ones.
func TestCursorOkOfManySpots(t *testing.T) {
	for _, text := range scenesByHand() {
		s := sceneOf(text)
		if len(s.l) > 24 {
			continue
		}
		right := map[string]bool{}
		s.eachSpot(func(p spot) { right[p.String()] = true })
		eachList(numbersFrom(-1, len(s.l)), 3, func(l []int) {
			if len(l) == 0 {
				return
			}
			p := spot{l[len(l)-1], l[:len(l)-1]}
			if got := impl.CursorOk(cursorAt(text, p)); got != right[p.String()] {
				t.Errorf("CursorOk at %s of %q is %v", p, text, got)
			}
		})
	}
}

func numbersFrom(from, to int) []int {
	var l []int
	for n := from; n <= to; n++ {
		l = append(l, n)
	}
	return l
}

// P9: which marks are right, of many by chance.
func TestCursorOkOfManyMarks(t *testing.T) {
	r := chance(16)
	counts := map[bool]int{}
	for _, text := range []string{curPlain, curChain, curWithin, curFault, curDeep} {
		s := sceneOf(text)
		var l []string
		s.eachSpot(func(p spot) { l = append(l, p.String()) })
		for range 3000 {
			c := cursorAt(text, spotAt(l[r.IntN(len(l))]))
			c.Last = r.IntN(8)
			want := true
			id := 0
			for range r.IntN(5) {
				if id += 1 + r.IntN(2); r.IntN(10) == 0 {
					id -= r.IntN(3)
				}
				m := markOf(id, spotAt(l[r.IntN(len(l))]))
				if r.IntN(5) == 0 {
					m.At += r.IntN(5) - 2
				}
				want = want && id > 0 && id <= c.Last && slices.Contains(l, spot{m.At, m.Stack}.String())
				for _, other := range c.Marks {
					want = want && other.Id < id
				}
				c.Marks = append(c.Marks, m)
			}
			if got := impl.CursorOk(c); got != want {
				t.Errorf("CursorOk of %s is %v", briefCursor(c), got)
			}
			counts[want]++
		}
	}
	if counts[true] < 1000 || counts[false] < 1000 {
		t.Errorf("right and wrong ones were met %v times", counts)
	}
}

// checkPulled: pulling tells the whole stream, up to its end or its fault, and then it stays there.
func checkPulled(t *testing.T, text string) {
	t.Helper()
	l := impl.Parse(text)
	c := impl.CurOpen(text)
	for i, e := range l {
		want := impl.Answer{Event: e}
		if e.Kind == impl.EvFault {
			want.Code = 3
		}
		if here := impl.CurEvent(c); here != want || c.At != i || !impl.CursorOk(c) {
			t.Errorf("of %q CurEvent tells %+v at %s, not %+v", text, here, briefCursor(c), want)
		}
		var a impl.Answer
		if c, a = impl.CurNext(c); a != want {
			t.Errorf("of %q is pulled %+v, not %+v", text, a, want)
		}
	}
	last := len(l) - 1
	want := impl.Answer{Event: l[last]}
	if l[last].Kind == impl.EvFault {
		want.Code = 3
	}
	for range 3 {
		var a impl.Answer
		if c, a = impl.CurNext(c); a != want || !alikeCursors(c, cursorAt(text, spot{at: last})) {
			t.Errorf("behind the last event of %q is pulled %+v at %s", text, a, briefCursor(c))
		}
	}
}

// P1: pulling tells the whole stream.
func TestPulling(t *testing.T) {
	for _, text := range append(scenesByHand(), curDeep) {
		checkPulled(t, text)
	}
	kinds := map[int]int{}
	writtenStreams(300, 4, func(w *streamScribe) {
		checkPulled(t, w.text)
		c := impl.CurOpen(w.text)
		for i, e := range w.events {
			var a impl.Answer
			if c, a = impl.CurNext(c); a != (impl.Answer{Event: e}) {
				t.Errorf("of %q is pulled %+v at place %d, not %+v", w.text, a, i, e)
			}
			kinds[e.Kind]++
		}
		cut := w.text[:len(w.text)/2]
		checkPulled(t, cut)
		kinds[impl.Parse(cut)[len(impl.Parse(cut))-1].Kind]++
	})
	wantCodes(t, kinds, impl.EvSeq, impl.EvMap, impl.EvText, impl.EvEnd, impl.EvDoc, impl.EvFault)
}

// checkOver: skipping a collection or an alias comes where entering and leaving it comes, and where pulling comes behind its last event.
func checkOver(t *testing.T, s scene, p spot) {
	t.Helper()
	c := cursorAt(s.text, p)
	over, a := impl.CurSkip(c)
	in, b := impl.CurEnter(c)
	if b.Code == 4 || !isNode(s.l[p.at]) {
		return
	}
	if isCollection(s.l[p.at]) || s.l[p.at].Kind == 6 {
		out, d := impl.CurLeave(in)
		if !alikeCursors(over, out) || a.Code != d.Code || a.Code == 0 && a != b {
			t.Errorf("skipping at %s comes to %s with %+v, entering and leaving to %s with %+v", briefCursor(c), briefCursor(over), a, briefCursor(out), d)
		}
	}
	pulled := c
	for range s.a.ends[p.at] - p.at + 1 {
		pulled, _ = impl.CurNext(pulled)
	}
	if s.a.ends[p.at] >= 0 && !alikeCursors(over, pulled) {
		t.Errorf("skipping at %s comes to %s, pulling to %s", briefCursor(c), briefCursor(over), briefCursor(pulled))
	}
}

// checkReplay: an alias replays its node, and then the cursor is behind the alias.
func checkReplay(t *testing.T, s scene, p spot) {
	t.Helper()
	c := cursorAt(s.text, p)
	behind, _ := impl.CurNext(c)
	in, a := impl.CurEnter(c)
	if s.l[p.at].Kind != 6 || a.Code == 4 {
		return
	}
	def := impl.DefOf(s.l, p.at)
	for _, e := range s.l[def : impl.EndOf(s.l, def)+1] {
		if alikeCursors(in, behind) {
			t.Errorf("the replay of %s ends ahead of %s", briefCursor(c), briefEvent(e))
		}
		if in, a = impl.CurNext(in); a != (impl.Answer{Event: e}) {
			t.Errorf("the replay of %s tells %+v, not %s", briefCursor(c), a, briefEvent(e))
		}
	}
	if !alikeCursors(in, behind) {
		t.Errorf("behind the replay of %s the cursor is at %s", briefCursor(c), briefCursor(in))
	}
}

// checkFaultStays: whatever is called at the fault, it is told, and the cursor stays there.
func checkFaultStays(t *testing.T, text string) {
	t.Helper()
	l := impl.Parse(text)
	last := len(l) - 1
	c := cursorAt(text, spot{at: last})
	c.Marks, c.Last = []impl.Mark{{Id: 2}}, 3
	for move := range moves {
		checkMove(t, move, c, c, impl.Answer{Code: 3, Event: l[last]})
	}
}

// P1: skipping, replays and faults, at all spots of streams of all kinds.
func TestWaysOver(t *testing.T) {
	faults := 0
	check := func(text string) {
		s := sceneOf(text)
		if s.l[len(s.l)-1].Kind == impl.EvFault {
			faults++
			checkFaultStays(t, text)
		}
		s.eachSpot(func(p spot) {
			checkOver(t, s, p)
			checkReplay(t, s, p)
		})
	}
	for _, text := range append(scenesByHand(), curDeep) {
		check(text)
	}
	writtenStreams(150, 3, func(w *streamScribe) {
		check(w.text)
		check(w.text[:len(w.text)*2/3])
	})
	if faults < 50 {
		t.Errorf("faults were met %d times", faults)
	}
}

// markedCursor sets marks by hand at the cursor's own place and at others where it has been.
func markedCursor(r *rand.Rand, c impl.Cursor, been []spot) impl.Cursor {
	c.Marks, c.Last = nil, 0
	for range r.IntN(impl.MaxMarks + 1) {
		c.Last += 1 + r.IntN(3)
		c.Marks = append(c.Marks, markOf(c.Last, been[r.IntN(len(been))]))
	}
	c.Last += r.IntN(2)
	return c
}

// P1: in every walk each call leaves a right cursor, and answers by its rule, whatever was called ahead of it.
func TestWalksByChance(t *testing.T) {
	met := map[string]int{}
	walk := func(r *rand.Rand, text string, c impl.Cursor, steps int) {
		s := sceneOf(text)
		been := []spot{spotOf(c)}
		for range steps {
			move := []int{0, 0, 1, 1, 1, 2, 3}[r.IntN(7)]
			want := s.checkTurn(t, move, c, met)
			if c, _ = moves[move].call(c); !alikeCursors(c, want) {
				t.Errorf("%s was answered otherwise than just before: %s", briefCursor(want), briefCursor(c))
				return
			}
			been = append(been, spot{c.At, slices.Clone(c.Stack)})
			if r.IntN(10) == 0 {
				c = markedCursor(r, c, been)
			}
		}
	}
	for i, text := range append(scenesByHand(), curDeep) {
		var spots []spot
		sceneOf(text).eachSpot(func(p spot) { spots = append(spots, p) })
		for j := range 10 {
			r := chance(uint64(100*i + j))
			walk(r, text, impl.CurOpen(text), 40)
			walk(r, text, cursorAt(text, spots[r.IntN(len(spots))]), 40)
		}
	}
	writtenStreams(200, 3, func(w *streamScribe) {
		walk(w.r, w.text, impl.CurOpen(w.text), 60)
		cut := w.text[:w.r.IntN(len(w.text)+1)]
		walk(w.r, cut, impl.CurOpen(cut), 30)
	})
	wantCounts(t, met, 20, allTurns...)
}

// wallOf puts something behind a list, so that what is written there shows.
func wallOf(l []int) []int { return append(slices.Clone(l), 77, 78)[:len(l)] }

// walledCursor does so with all lists of a cursor.
func walledCursor(c impl.Cursor) impl.Cursor {
	c = cloneCursor(c)
	c.Stack = wallOf(c.Stack)
	for i := range c.Marks {
		c.Marks[i].Stack = wallOf(c.Marks[i].Stack)
	}
	c.Marks = append(c.Marks, impl.Mark{Id: 77}, impl.Mark{Id: 78})[:len(c.Marks)]
	return c
}

func cursorWallStands(c impl.Cursor) bool {
	stands := slices.Equal(c.Stack[len(c.Stack):len(c.Stack)+2], []int{77, 78})
	for _, m := range c.Marks {
		stands = stands && slices.Equal(m.Stack[len(m.Stack):len(m.Stack)+2], []int{77, 78})
	}
	behind := c.Marks[len(c.Marks) : len(c.Marks)+2]
	return stands && alikeMarks(behind[0], impl.Mark{Id: 77}) && alikeMarks(behind[1], impl.Mark{Id: 78})
}

// cursorsToKeep are cursors of all kinds, right and wrong, with marks.
func cursorsToKeep() []impl.Cursor {
	var l []impl.Cursor
	for _, k := range []struct{ text, spots string }{
		{curPlain, "0 3 4 4>3 5 8 12 13 4>4"}, {curChain, "5 11 11>8 11>8>5 11>8>5>3 11>10 11>9>3"}, {curWithin, "8 8>3 8>6 8>7 12"}, {curFault, "7 6>4 12"}, {curDeep, "22>20>17>14>11>8>5 22>20>17>14>11>8"}, {"%", "0 1"},
	} {
		for _, word := range strings.Fields(k.spots) {
			c := cursorAt(k.text, spotAt(word))
			l = append(l, cloneCursor(c))
			c.Marks = []impl.Mark{{Id: 1, At: 1}, markOf(2, spotAt(word)), markOf(4, spotAt(word))}
			c.Last = 5
			l = append(l, c)
		}
	}
	return l
}

// Chapter 1: what is handed in isn't changed, nor what stands behind it.
func TestCursorsLeaveWhatIsHandedIn(t *testing.T) {
	for _, c := range cursorsToKeep() {
		given := walledCursor(c)
		impl.CursorOk(given)
		impl.CurEvent(given)
		for _, move := range moves {
			if move.call(given); !alikeCursors(given, c) || !cursorWallStands(given) {
				t.Errorf("%s changed %s into %s", move.name, briefCursor(c), briefCursor(given))
			}
		}
	}
}

func spoilCursor(c impl.Cursor) {
	spoilPlaces(c.Stack)
	for _, m := range c.Marks {
		spoilPlaces(m.Stack)
	}
	whole := c.Marks[:cap(c.Marks)]
	for i := range whole {
		whole[i] = impl.Mark{Id: 77}
	}
}

// Chapter 1: an answer hangs on the arguments alone; a later call doesn't change it, nor does writing into another or into what was handed in.
func TestCursorsKeepNothing(t *testing.T) {
	for _, c := range cursorsToKeep() {
		for _, move := range moves {
			given := cloneCursor(c)
			first, a := move.call(given)
			kept := cloneCursor(first)
			other, _ := move.call(given)
			spoilCursor(other)
			if !alikeCursors(given, c) || !alikeCursors(first, kept) {
				t.Errorf("what %s answers to %s shares memory with it or with an earlier answer", move.name, briefCursor(c))
			}
			spoilCursor(given)
			if !alikeCursors(first, kept) {
				t.Errorf("what %s answers to %s changes with it", move.name, briefCursor(c))
			}
			for _, next := range moves {
				next.call(first)
			}
			again, b := move.call(cloneCursor(c))
			if !alikeCursors(first, kept) || !alikeCursors(again, kept) || a != b {
				t.Errorf("%s answers %s to %s, and then %s", move.name, briefCursor(kept), briefCursor(c), briefCursor(again))
			}
		}
	}
}

// Chapter 1: no two lists of an answer share memory, also where those of the argument do.
func TestCursorAnswersShareNothing(t *testing.T) {
	for _, c := range cursorsToKeep() {
		for i := range c.Marks {
			c.Marks[i].At, c.Marks[i].Stack = c.At, c.Stack
		}
		for _, move := range moves {
			got, _ := move.call(c)
			want := cloneCursor(got)
			for i := range got.Marks {
				spoilPlaces(got.Marks[i].Stack)
				rest := cloneCursor(got)
				rest.Marks[i].Stack = want.Marks[i].Stack
				if !alikeCursors(rest, want) {
					t.Errorf("of what %s answers to %s, the stack of mark %d shares memory with another list", move.name, briefCursor(c), i)
				}
				copy(got.Marks[i].Stack, want.Marks[i].Stack)
			}
			spoilPlaces(got.Stack)
			if got.Stack = want.Stack; !alikeCursors(got, want) {
				t.Errorf("of what %s answers to %s, the stack shares memory with another list", move.name, briefCursor(c))
			}
		}
	}
}

// Every call ends, in time, also for great texts and lists.
func TestGreatCursors(t *testing.T) {
	text := "- &a x\n" + strings.Repeat("- *a\n", (impl.MaxText-10)/5)
	last := len(impl.Parse(text)) - 1
	for _, at := range []int{0, 3, 4, last / 2, last - 3} {
		c := cursorAt(text, spot{at: at})
		c.Marks, c.Last = []impl.Mark{{Id: 3, At: 3, Stack: []int{4}}, {Id: 5, At: 3, Stack: []int{last - 3}}}, 9
		checkRightCursor(t, c)
	}
	c, a := impl.CurLeave(cursorAt(text, spot{at: 4}))
	if c.At != last-1 || a.Code != 0 || a.Event.Kind != impl.EvEnd {
		t.Errorf("behind the great list is %+v at place %d of %d", a, c.At, last)
	}
	deep := "- &a x\n- " + strings.Repeat("[", 38) + strings.Repeat("]", 38) + "\n- *a\n"
	checkScene(t, deep, map[string]int{})
	// As many as don't go on a stack and into marks.
	const many = 1 << 20
	c = impl.CurOpen(curPlain)
	c.Stack = slices.Repeat([]int{4}, many)
	checkWrongCursor(t, c)
	c.Stack, c.Marks, c.Last = nil, make([]impl.Mark, many), impl.MaxNum
	for i := range c.Marks {
		c.Marks[i] = impl.Mark{Id: i + 1, At: 3, Stack: []int{4}}
	}
	checkWrongCursor(t, c)
	c.Marks = []impl.Mark{{Id: 1, Stack: slices.Repeat([]int{4}, many)}}
	checkWrongCursor(t, c)
	checkRightCursor(t, impl.CurOpen(strings.Repeat("- [", many)))
}
