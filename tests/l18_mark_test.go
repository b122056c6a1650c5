package tests

import (
	"fmt"
	"math/rand/v2"
	"slices"
	"strconv"
	"strings"
	"testing"

	"loop.example/g00666/impl"
)

// cursorIn reads a cursor from words: the spot first; then each mark, its Id and its spot with = between; then Last behind a ^, which is 0 where that isn't there.
func cursorIn(text, line string) impl.Cursor {
	words := strings.Fields(line)
	c := cursorAt(text, spotAt(words[0]))
	for _, word := range words[1:] {
		if last, ok := strings.CutPrefix(word, "^"); ok {
			c.Last = wholeNumber(last)
			continue
		}
		id, where, _ := strings.Cut(word, "=")
		c.Marks = append(c.Marks, markOf(wholeNumber(id), spotAt(where)))
	}
	return c
}

func wholeNumber(s string) int {
	n, err := strconv.Atoi(s)
	if err != nil {
		panic(s)
	}
	return n
}

// markedByRule is the second telling of CurMark, at a cursor that is right.
func markedByRule(c impl.Cursor) (impl.Cursor, int) {
	want := cloneCursor(c)
	if len(c.Marks) >= 10 || c.Last >= 4294967295 {
		return want, 0
	}
	want.Last = c.Last + 1
	want.Marks = append(want.Marks, markOf(want.Last, spotOf(c)))
	return want, want.Last
}

// rewoundByRule is that of CurRewind.
func rewoundByRule(c impl.Cursor, id int) (impl.Cursor, int) {
	want := cloneCursor(c)
	want.Marks = nil
	for _, m := range c.Marks {
		want.Marks = append(want.Marks, markOf(m.Id, spot{m.At, m.Stack}))
		if m.Id == id {
			want.At, want.Stack = m.At, slices.Clone(m.Stack)
			return want, 0
		}
	}
	return want, 5
}

// droppedByRule is that of CurDrop.
func droppedByRule(c impl.Cursor, id int) (impl.Cursor, int) {
	want := cloneCursor(c)
	want.Marks = nil
	for _, m := range c.Marks {
		if m.Id != id {
			want.Marks = append(want.Marks, markOf(m.Id, spot{m.At, m.Stack}))
		}
	}
	if len(want.Marks) == len(c.Marks) {
		return want, 5
	}
	return want, 0
}

// backs are the two calls that take the Id of a mark.
var backs = []struct {
	name string
	call func(impl.Cursor, int) (impl.Cursor, int)
	rule func(impl.Cursor, int) (impl.Cursor, int)
}{
	{"CurRewind", impl.CurRewind, rewoundByRule}, {"CurDrop", impl.CurDrop, droppedByRule},
}

// checkMarkAnswer holds what a call of marks answers against what it should, with the Id or the code.
func checkMarkAnswer(t *testing.T, name string, c, got impl.Cursor, n int, want impl.Cursor, wantN int) {
	t.Helper()
	if !alikeCursors(got, want) || n != wantN {
		t.Errorf("%s at %s is at %s with %d, not at %s with %d", name, briefCursor(c), briefCursor(got), n, briefCursor(want), wantN)
	}
	if !impl.CursorOk(got) {
		t.Errorf("%s at %s is at %s, which isn't right", name, briefCursor(c), briefCursor(got))
	}
}

func checkMarking(t *testing.T, c, want impl.Cursor, wantId int) {
	t.Helper()
	got, id := impl.CurMark(c)
	checkMarkAnswer(t, "CurMark", c, got, id, want, wantId)
}

func checkBack(t *testing.T, back int, c impl.Cursor, id int, want impl.Cursor, wantCode int) {
	t.Helper()
	got, code := backs[back].call(c, id)
	checkMarkAnswer(t, fmt.Sprint(backs[back].name, " to ", id), c, got, code, want, wantCode)
}

// P9: a mark at each kind of a place, with no mark yet and with some.
func TestCurMark(t *testing.T) {
	for _, k := range []struct {
		text, from, to string
		id             int
	}{
		// No mark: each kind of an event.
		{curPlain, "0", "0 1=0 ^1", 1}, {curPlain, "1", "1 1=1 ^1", 1}, {curPlain, "2", "2 1=2 ^1", 1}, {curPlain, "3", "3 1=3 ^1", 1}, {curPlain, "4", "4 1=4 ^1", 1}, {curPlain, "8", "8 1=8 ^1", 1}, {curPlain, "11", "11 1=11 ^1", 1}, {curPlain, "12", "12 1=12 ^1", 1}, {curFault, "12", "12 1=12 ^1", 1}, {"", "1", "1 1=1 ^1", 1}, {"%", "1", "1 1=1 ^1", 1},
		// Within replays.
		{curPlain, "4>3", "4>3 1=4>3 ^1", 1}, {curChain, "11>8>5", "11>8>5 1=11>8>5 ^1", 1}, {curDeep, "22>20>17>14>11>8>5", "22>20>17>14>11>8>5 1=22>20>17>14>11>8>5 ^1", 1},
		// None any more.
		{curPlain, "5 ^1", "5 2=5 ^2", 2}, {curPlain, "5 ^7", "5 8=5 ^8", 8},
		// Some: the last Id counts, whether its mark is there or not.
		{curPlain, "5 1=3 ^1", "5 1=3 2=5 ^2", 2}, {curPlain, "5 1=5 ^1", "5 1=5 2=5 ^2", 2}, {curPlain, "5 1=3 ^2", "5 1=3 3=5 ^3", 3}, {curPlain, "5 3=9 7=4>3 ^9", "5 3=9 7=4>3 10=5 ^10", 10}, {curChain, "11>8 1=8>5 2=0 4=11>8>5>3 ^4", "11>8 1=8>5 2=0 4=11>8>5>3 5=11>8 ^5", 5}, {curPlain, "0 1=4>3 ^1", "0 1=4>3 2=0 ^2", 2}, {curPlain, "4>3 1=0 ^1", "4>3 1=0 2=4>3 ^2", 2},
		// As many as there may be, and one fewer.
		{curPlain, "5 1=0 2=1 3=2 4=3 5=4 6=4>3 7=6 8=7 9=8 ^9", "5 1=0 2=1 3=2 4=3 5=4 6=4>3 7=6 8=7 9=8 10=5 ^10", 10}, {curPlain, "5 1=0 2=1 3=2 4=3 5=4 6=4>3 7=6 8=7 9=8 ^70", "5 1=0 2=1 3=2 4=3 5=4 6=4>3 7=6 8=7 9=8 71=5 ^71", 71},
		{curPlain, "5 1=0 2=1 3=2 4=3 5=4 6=4>3 7=6 8=7 9=8 10=9 ^10", "5 1=0 2=1 3=2 4=3 5=4 6=4>3 7=6 8=7 9=8 10=9 ^10", 0}, {curPlain, "4>3 11=0 12=1 13=2 14=3 15=4 16=4>3 17=6 18=7 19=8 20=9 ^70", "4>3 11=0 12=1 13=2 14=3 15=4 16=4>3 17=6 18=7 19=8 20=9 ^70", 0},
		// The greatest Id.
		{curPlain, "5 ^4294967294", "5 4294967295=5 ^4294967295", impl.MaxNum}, {curPlain, "5 3=0 4294967294=4>3 ^4294967294", "5 3=0 4294967294=4>3 4294967295=5 ^4294967295", impl.MaxNum},
		{curPlain, "5 ^4294967295", "5 ^4294967295", 0}, {curPlain, "4>3 ^4294967295", "4>3 ^4294967295", 0}, {curPlain, "5 3=0 4=4>3 ^4294967295", "5 3=0 4=4>3 ^4294967295", 0}, {curPlain, "5 4294967295=0 ^4294967295", "5 4294967295=0 ^4294967295", 0}, {curPlain, "5 1=0 2=1 3=2 4=3 5=4 6=5 7=6 8=7 9=8 10=9 ^4294967295", "5 1=0 2=1 3=2 4=3 5=4 6=5 7=6 8=7 9=8 10=9 ^4294967295", 0},
	} {
		c, want := cursorIn(k.text, k.from), cursorIn(k.text, k.to)
		checkMarking(t, c, want, k.id)
		if byRule, id := markedByRule(c); !alikeCursors(byRule, want) || id != k.id {
			t.Errorf("by the rule CurMark at %s is at %s with %d", briefCursor(c), briefCursor(byRule), id)
		}
	}
}

// backCase is a call with the Id of a mark: where it comes, and the code.
type backCase struct {
	text, from string
	id         int
	to         string
	code       int
}

func checkBacks(t *testing.T, back int, l []backCase) {
	t.Helper()
	for _, k := range l {
		c, want := cursorIn(k.text, k.from), cursorIn(k.text, k.to)
		checkBack(t, back, c, k.id, want, k.code)
		if byRule, code := backs[back].rule(c, k.id); !alikeCursors(byRule, want) || code != k.code {
			t.Errorf("by the rule %s to %d at %s is at %s with %d", backs[back].name, k.id, briefCursor(c), briefCursor(byRule), code)
		}
	}
}

const tenMarks = " 1=0 2=1 3=2 4=3 5=4 6=4>3 7=6 8=7 9=8 10=9 ^10"

// P9: back to marks.
func TestCurRewind(t *testing.T) {
	checkBacks(t, 0, []backCase{
		// The one mark, the first, one in the middle, the last.
		{curPlain, "5 1=3 ^1", 1, "3 1=3 ^1", 0}, {curPlain, "5 1=3 2=7 3=9 ^3", 1, "3 1=3 ^3", 0}, {curPlain, "5 1=3 2=7 3=9 ^3", 2, "7 1=3 2=7 ^3", 0}, {curPlain, "5 1=3 2=7 3=9 ^3", 3, "9 1=3 2=7 3=9 ^3", 0}, {curPlain, "5 2=3 7=1 9=9 ^30", 7, "1 2=3 7=1 ^30", 0},
		{curPlain, "5" + tenMarks, 1, "0 1=0 ^10", 0}, {curPlain, "5" + tenMarks, 6, "4>3 1=0 2=1 3=2 4=3 5=4 6=4>3 ^10", 0}, {curPlain, "5" + tenMarks, 10, "9" + tenMarks, 0},
		// Where the cursor is; forward; to the ends; at the fault.
		{curPlain, "5 1=5 ^1", 1, "5 1=5 ^1", 0}, {curPlain, "5 1=8 2=9 ^2", 1, "8 1=8 ^2", 0}, {curPlain, "5 1=0 2=12 ^2", 1, "0 1=0 ^2", 0}, {curPlain, "5 1=0 2=12 ^2", 2, "12 1=0 2=12 ^2", 0}, {curFault, "12 1=6>4 ^1", 1, "6>4 1=6>4 ^1", 0}, {curFault, "6>4 1=12 ^1", 1, "12 1=12 ^1", 0},
		// A mark has a stack, the cursor has none, and the other way round; both have.
		{curPlain, "5 1=4>3 ^1", 1, "4>3 1=4>3 ^1", 0}, {curPlain, "4>3 1=5 ^1", 1, "5 1=5 ^1", 0}, {curChain, "11>8>5 1=8>4 2=11>8>5>3 ^2", 1, "8>4 1=8>4 ^2", 0}, {curChain, "11>8>5 1=8>4 2=11>8>5>3 ^2", 2, "11>8>5>3 1=8>4 2=11>8>5>3 ^2", 0}, {curChain, "0 1=11>8>5>3 ^1", 1, "11>8>5>3 1=11>8>5>3 ^1", 0}, {curChain, "11>8>5>3 1=0 ^1", 1, "0 1=0 ^1", 0}, {curDeep, "0 1=22>20>17>14>11>8>5 ^1", 1, "22>20>17>14>11>8>5 1=22>20>17>14>11>8>5 ^1", 0},
		// The greatest Id.
		{curPlain, "5 1=3 4294967295=9 ^4294967295", impl.MaxNum, "9 1=3 4294967295=9 ^4294967295", 0}, {curPlain, "5 1=3 4294967295=9 ^4294967295", 1, "3 1=3 ^4294967295", 0},
		// No mark at all, and none any more.
		{curPlain, "5", 0, "5", 5}, {curPlain, "5", 1, "5", 5}, {curPlain, "4>3 ^4", 4, "4>3 ^4", 5}, {curPlain, "5 ^4", 1, "5 ^4", 5},
		// One that was dropped or that a rewinding took; none; beyond Last.
		{curPlain, "5 1=3 3=7 ^5", 2, "5 1=3 3=7 ^5", 5}, {curPlain, "5 1=3 3=7 ^5", 4, "5 1=3 3=7 ^5", 5}, {curPlain, "5 1=3 3=7 ^5", 5, "5 1=3 3=7 ^5", 5}, {curPlain, "5 2=3 3=7 ^5", 1, "5 2=3 3=7 ^5", 5}, {curPlain, "5 1=3 3=7 ^5", 0, "5 1=3 3=7 ^5", 5}, {curPlain, "5 1=3 3=7 ^5", -1, "5 1=3 3=7 ^5", 5}, {curPlain, "5 1=3 3=7 ^5", 6, "5 1=3 3=7 ^5", 5}, {curPlain, "5 1=3 3=7 ^5", impl.MaxNum, "5 1=3 3=7 ^5", 5}, {curPlain, "5 1=3 3=7 ^5", lowest, "5 1=3 3=7 ^5", 5}, {curPlain, "5 1=3 3=7 ^5", highest, "5 1=3 3=7 ^5", 5}, {curPlain, "5 1=3 3=7 ^5", 1<<32 + 1, "5 1=3 3=7 ^5", 5}, {curFault, "12 1=3 ^1", 2, "12 1=3 ^1", 5}, {curPlain, "4>3 1=3 ^1", -3, "4>3 1=3 ^1", 5}, {curPlain, "5" + tenMarks, 11, "5" + tenMarks, 5},
	})
}

// P9: marks that are taken away.
func TestCurDrop(t *testing.T) {
	checkBacks(t, 1, []backCase{
		// The one mark, the first, one in the middle, the last.
		{curPlain, "5 1=3 ^1", 1, "5 ^1", 0}, {curPlain, "5 1=3 2=7 3=9 ^3", 1, "5 2=7 3=9 ^3", 0}, {curPlain, "5 1=3 2=7 3=9 ^3", 2, "5 1=3 3=9 ^3", 0}, {curPlain, "5 1=3 2=7 3=9 ^3", 3, "5 1=3 2=7 ^3", 0}, {curPlain, "5 2=3 7=1 9=9 ^30", 7, "5 2=3 9=9 ^30", 0},
		{curPlain, "5" + tenMarks, 1, "5 2=1 3=2 4=3 5=4 6=4>3 7=6 8=7 9=8 10=9 ^10", 0}, {curPlain, "5" + tenMarks, 6, "5 1=0 2=1 3=2 4=3 5=4 7=6 8=7 9=8 10=9 ^10", 0}, {curPlain, "5" + tenMarks, 10, "5 1=0 2=1 3=2 4=3 5=4 6=4>3 7=6 8=7 9=8 ^10", 0},
		// The cursor stays, whatever stacks there are.
		{curPlain, "5 1=5 ^1", 1, "5 ^1", 0}, {curPlain, "5 1=4>3 ^1", 1, "5 ^1", 0}, {curPlain, "4>3 1=5 ^1", 1, "4>3 ^1", 0}, {curChain, "11>8>5 1=8>4 2=11>8>5>3 ^2", 1, "11>8>5 2=11>8>5>3 ^2", 0}, {curChain, "11>8>5 1=8>4 2=11>8>5>3 ^2", 2, "11>8>5 1=8>4 ^2", 0}, {curFault, "12 1=6>4 2=12 ^2", 2, "12 1=6>4 ^2", 0},
		// The greatest Id.
		{curPlain, "5 1=3 4294967295=9 ^4294967295", impl.MaxNum, "5 1=3 ^4294967295", 0},
		// No mark at all, and none any more.
		{curPlain, "5", 0, "5", 5}, {curPlain, "5", 1, "5", 5}, {curPlain, "4>3 ^4", 4, "4>3 ^4", 5}, {curPlain, "5 ^4", 1, "5 ^4", 5},
		// One that was dropped; none; beyond Last.
		{curPlain, "5 1=3 3=7 ^5", 2, "5 1=3 3=7 ^5", 5}, {curPlain, "5 1=3 3=7 ^5", 4, "5 1=3 3=7 ^5", 5}, {curPlain, "5 1=3 3=7 ^5", 5, "5 1=3 3=7 ^5", 5}, {curPlain, "5 1=3 3=7 ^5", 0, "5 1=3 3=7 ^5", 5}, {curPlain, "5 1=3 3=7 ^5", -1, "5 1=3 3=7 ^5", 5}, {curPlain, "5 1=3 3=7 ^5", 6, "5 1=3 3=7 ^5", 5}, {curPlain, "5 1=3 3=7 ^5", impl.MaxNum, "5 1=3 3=7 ^5", 5}, {curPlain, "5 1=3 3=7 ^5", lowest, "5 1=3 3=7 ^5", 5}, {curPlain, "5 1=3 3=7 ^5", highest, "5 1=3 3=7 ^5", 5}, {curPlain, "5 1=3 3=7 ^5", 1<<32 + 1, "5 1=3 3=7 ^5", 5}, {curPlain, "4>3 1=3 ^1", -3, "4>3 1=3 ^1", 5},
	})
}

// P9: an Id is given once, also where its mark is gone.
func TestMarkIdsAreNew(t *testing.T) {
	c := impl.CurOpen(curPlain)
	for want := 1; want <= 40; want++ {
		var id, code int
		if c, id = impl.CurMark(c); id != want {
			t.Errorf("mark %d has the Id %d", want, id)
		}
		code = 5
		switch want % 3 {
		case 0:
			c, _ = impl.CurDrop(c, id)
		case 1:
			c, _ = impl.CurRewind(c, 1)
		default:
			code = 0
		}
		if _, got := impl.CurRewind(c, id); got != code && id > 1 {
			t.Errorf("CurRewind to %d at %s says %d", id, briefCursor(c), got)
		}
	}
	if want := cursorIn(curPlain, "0 1=0 ^40"); !alikeCursors(c, want) {
		t.Errorf("the walk ends at %s, not at %s", briefCursor(c), briefCursor(want))
	}
}

// cursorsNotRight are wrong in each way, with marks that are there in spite of it.
func cursorsNotRight() []impl.Cursor {
	var l []impl.Cursor
	for _, k := range []struct{ text, at string }{
		{curPlain, "13"}, {curPlain, "-1"}, {curPlain, fmt.Sprint(lowest)}, {curPlain, fmt.Sprint(highest)}, {curPlain, "4>4"}, {curPlain, "3>3"}, {curPlain, "4>6"}, {curPlain, "4>4>3"}, {curPlain, "-1>3"}, {curPlain, "99>3"},
		{curChain, "8>8"}, {curChain, "5>8>4"}, {curChain, "11>8>5>4"}, {curFault, "6>8"}, {curFault, "13"}, {curDeep, "22>20>17>14>11>8>5>3"}, {"", "2"}, {"%", "2"}, {"*x", "3"}, {"*x", "2>2"},
	} {
		l = append(l, cursorIn(k.text, k.at), cursorIn(k.text, k.at+" 1=0 2=1 ^3"), cursorIn(k.text, "0 1="+k.at+" ^1"), cursorIn(k.text, "0 1=0 2="+k.at+" 3=1 ^3"))
	}
	for _, line := range []string{
		"5 ^-1", "5 ^4294967296", "5 1=0 ^4294967296", "5 1=0 ^0", "5 0=0 ^1", "5 -1=0 ^1", "5 1=0 3=0 ^2", "5 2=0 2=0 ^3", "5 2=0 1=0 ^3",
		"5 1=0 2=0 3=0 4=0 5=0 6=0 7=0 8=0 9=0 10=0 11=0 ^11",
	} {
		l = append(l, cursorIn(curPlain, line))
	}
	return l
}

// P9: a cursor that isn't right is answered by nothing, whatever is asked of it.
func TestMarksOfWrongCursors(t *testing.T) {
	for _, c := range cursorsNotRight() {
		if impl.CursorOk(c) {
			t.Errorf("%s should not be right", briefCursor(c))
		}
		if got, id := impl.CurMark(c); !alikeCursors(got, impl.Cursor{}) || id != 0 {
			t.Errorf("CurMark at %s is at %s with %d", briefCursor(c), briefCursor(got), id)
		}
		for _, id := range []int{0, 1, 2, 3, 4, 11, -1, impl.MaxNum, impl.MaxNum + 1, lowest, highest} {
			for _, back := range backs {
				if got, code := back.call(c, id); !alikeCursors(got, impl.Cursor{}) || code != 1 {
					t.Errorf("%s to %d at %s is at %s with %d", back.name, id, briefCursor(c), briefCursor(got), code)
				}
			}
		}
		if depth, value, size := impl.CurDepth(c), impl.CurValue(c), impl.CurSize(c); depth != -1 || value != (impl.Value{}) || size != 0 {
			t.Errorf("at %s are told the depth %d, the value %+v, the size %d", briefCursor(c), depth, value, size)
		}
	}
}

func checkDepth(t *testing.T, c impl.Cursor, want int) {
	t.Helper()
	if got := impl.CurDepth(c); got != want {
		t.Errorf("the depth of %s is %d, not %d", briefCursor(c), got, want)
	}
}

// checkEach asks at each place of a text, without any alias entered, for what words say.
func checkEach(t *testing.T, check func(*testing.T, impl.Cursor, int), text, want string) {
	t.Helper()
	words := strings.Fields(want)
	if l := impl.Parse(text); len(l) != len(words) {
		t.Fatalf("%q has %d events, not %d", text, len(l), len(words))
	}
	for i, word := range words {
		check(t, impl.Cursor{Text: text, At: i}, wholeNumber(word))
	}
}

// checkSome asks at spots, each with what is wanted behind an equals sign. Marks and Last change nothing.
func checkSome(t *testing.T, check func(*testing.T, impl.Cursor, int), text, line string) {
	t.Helper()
	for _, word := range strings.Fields(line) {
		at, want, _ := strings.Cut(word, "=")
		check(t, cursorIn(text, at), wholeNumber(want))
		check(t, cursorIn(text, at+" 1=0 3="+at+" 4=1 ^6"), wholeNumber(want))
	}
}

// P9: how deep each place of a stream is.
func TestCurDepth(t *testing.T) {
	for _, k := range []struct{ text, want string }{
		{"", "0 0"}, {"a", "0 0 0 0 0"}, {"[]", "0 0 0 1 0 0"}, {"{}", "0 0 0 1 0 0"}, {"[a, b]", "0 0 0 1 1 1 0 0"}, {"{a: b}", "0 0 0 1 1 1 0 0"},
		{curPlain, "0 0 0 1 1 1 2 2 2 1 1 0 0"}, {curChain, "0 0 0 1 1 2 2 1 2 2 2 1 1 0 0"}, {curWithin, "0 0 0 1 2 2 3 2 1 1 1 2 2 2 1 0 0"},
		// A key and its value, and what is in them.
		{"a:\n- b\n- c: {}\nd: e\n", "0 0 0 1 1 2 2 3 3 4 3 2 1 1 1 0 0"},
		// Several documents.
		{curDocs, "0 0 0 0 0 0 1 1 0 0"}, {"- a\n---\n- b: c\n--- d\n", "0 0 0 1 1 0 0 0 1 2 2 2 1 0 0 0 0 0"},
		// Faults within collections, behind one, and in none.
		{curFault, "0 0 0 1 2 2 1 1 2 2 3 3 3"}, {"[", "0 0 0 1"}, {"[[{", "0 0 0 1 2 3"}, {"{a: b, c: {d: 'e", "0 0 0 1 1 1 1 2 2"}, {curBehind, "0 0 0 0"}, {curBelow, "0 0 0 1 1 0"}, {"%", "0 0"}, {"[a]\n--- [", "0 0 0 1 1 0 0 0 1"},
	} {
		checkEach(t, checkDepth, k.text, k.want)
	}
	// Through an alias: at the first place of the replay, within it, at the last.
	checkSome(t, checkDepth, curPlain, "4>3=1")
	checkSome(t, checkDepth, curFault, "6>3=1 6>4=2 6>5=2 12=3")
	checkSome(t, checkDepth, curWithin, "8>3=1 8>4=2 8>5=2 8>6=3 8>7=2 9>5=1 9>6=2 11>5=2 11>6=3 12>3=2 12>4=3 12>6=4 12>7=3")
	// Through several.
	checkSome(t, checkDepth, curChain, "8>4=2 8>5=3 8>6=3 8>5>3=3 11>7=1 11>8=2 11>9=2 11>10=2 11>8>4=2 11>8>5=3 11>8>6=3 11>8>5>3=3")
	checkSome(t, checkDepth, curDeep, "22>20>17>14>11>8>4=6 22>20>17>14>11>8>5=7 22>20>17>14>11>8>6=7 20>17>14>11>8>5>3=7")
	// The node of an alias stands deeper than the alias, or not as deep.
	checkSome(t, checkDepth, curApart, "8=3 11=5 18>8=1 18>9=2 18>10=2 18>12=3 18>13=3 18>14=2 22=3 22>10=3 22>12=4 22>13=4")
	// As deep as may be, and through an alias deeper.
	deep := "- &a " + strings.Repeat("[", impl.MaxDepth-1) + strings.Repeat("]", impl.MaxDepth-1) + "\n- *a\n- [[*a]]\n"
	inner := 2 + impl.MaxDepth - 1
	checkDepth(t, impl.Cursor{Text: deep, At: inner}, impl.MaxDepth-1)
	checkDepth(t, impl.Cursor{Text: deep, At: inner + 1}, impl.MaxDepth)
	end := impl.EndOf(impl.Parse(deep), 3)
	checkDepth(t, impl.Cursor{Text: deep, At: inner + 1, Stack: []int{end + 1}}, impl.MaxDepth)
	checkDepth(t, impl.Cursor{Text: deep, At: inner + 1, Stack: []int{end + 4}}, impl.MaxDepth+2)
}

// P9: each kind of a value, also as the node of an alias, and what is none.
func TestCurValue(t *testing.T) {
	// 3 and 4 to 17 and 18: a node and its alias.
	pairs := "- &a ~\n- *a\n- &b True\n- *b\n- &c -12\n- *c\n- &d 'e f'\n- *d\n- &e !t g\n- *e\n- &f !!int x\n- *f\n- &g !!int '7'\n- *g\n- &h '7'\n- *h\n"
	for i, want := range []impl.Value{{Kind: 1}, {Kind: 2, B: true}, {Kind: 3, N: -12}, {Kind: 4, S: "e f"}, {Kind: 7, S: "g"}, {Kind: 7, S: "x"}, {Kind: 3, N: 7}, {Kind: 4, S: "7"}} {
		checkCurValue(t, cursorAt(pairs, spot{at: 3 + 2*i}), want)
		checkCurValue(t, cursorAt(pairs, spot{at: 4 + 2*i}), want)
		checkCurValue(t, cursorAt(pairs, spot{3 + 2*i, []int{4 + 2*i}}), want)
	}
	for _, k := range []struct {
		text, at string
		want     impl.Value
	}{
		// Collections, their aliases, within replays, cut off.
		{curPlain, "2", impl.Value{Kind: 5}}, {curPlain, "5", impl.Value{Kind: 5}}, {curWithin, "3", impl.Value{Kind: 6}}, {curWithin, "5", impl.Value{Kind: 5}}, {curWithin, "8", impl.Value{Kind: 6}}, {curWithin, "9", impl.Value{Kind: 5}}, {curWithin, "11", impl.Value{Kind: 5}}, {curWithin, "12", impl.Value{Kind: 6}}, {curWithin, "8>3", impl.Value{Kind: 6}}, {curWithin, "8>5", impl.Value{Kind: 5}}, {curFault, "2", impl.Value{Kind: 5}}, {curFault, "9", impl.Value{Kind: 6}}, {"&a !t [x]", "2", impl.Value{Kind: 5}}, {"!!null {}", "2", impl.Value{Kind: 6}},
		// Scalars as keys, as values, ahead of a fault, as a document's node.
		{curWithin, "4", impl.Value{Kind: 4, S: "k"}}, {"{true: 0x1F, null: ''}", "3", impl.Value{Kind: 2, B: true}}, {"{true: 0x1F, null: ''}", "4", impl.Value{Kind: 3, N: 31}}, {"{true: 0x1F, null: ''}", "5", impl.Value{Kind: 1}}, {"{true: 0x1F, null: ''}", "6", impl.Value{Kind: 4}}, {curFault, "11", impl.Value{Kind: 4, S: "d"}}, {curDocs, "2", impl.Value{Kind: 4, S: "a"}}, {"---\n", "2", impl.Value{Kind: 1}}, {"|\n 12\n", "2", impl.Value{Kind: 4, S: "12\n"}},
		// Aliases of what aliases stand in, and of the last node with the name.
		{curChain, "8>5", impl.Value{Kind: 4, S: "x"}}, {curChain, "11>8", impl.Value{Kind: 5}}, {curChain, "11>8>5>3", impl.Value{Kind: 4, S: "x"}}, {"- &a x\n- &a 1\n- *a\n", "5", impl.Value{Kind: 3, N: 1}}, {"&a x\n--- [&a 2, *a]\n", "7", impl.Value{Kind: 3, N: 2}},
		// What is no node.
		{curPlain, "0", impl.Value{}}, {curPlain, "1", impl.Value{}}, {curPlain, "8", impl.Value{}}, {curPlain, "10", impl.Value{}}, {curPlain, "11", impl.Value{}}, {curPlain, "12", impl.Value{}}, {curWithin, "7", impl.Value{}}, {curWithin, "8>6", impl.Value{}}, {curWithin, "8>7", impl.Value{}}, {curFault, "12", impl.Value{}}, {curBehind, "3", impl.Value{}}, {"", "0", impl.Value{}}, {"", "1", impl.Value{}}, {"%", "1", impl.Value{}},
		// Where an alias has no node, the fault is told.
		{"*x", "2", impl.Value{}}, {"[&a [*a]]", "4", impl.Value{}}, {"&a x\n--- *a\n", "5", impl.Value{}},
	} {
		c := cursorIn(k.text, k.at)
		checkCurValue(t, c, k.want)
		c.Marks, c.Last = []impl.Mark{{Id: 2, At: 1}}, 3
		checkCurValue(t, c, k.want)
	}
}

func checkCurValue(t *testing.T, c impl.Cursor, want impl.Value) {
	t.Helper()
	if !impl.CursorOk(c) {
		t.Errorf("%s should be right", briefCursor(c))
	}
	if got := impl.CurValue(c); got != want {
		t.Errorf("the value at %s is %+v, not %+v", briefCursor(c), got, want)
	}
}

func checkSize(t *testing.T, c impl.Cursor, want int) {
	t.Helper()
	if got := impl.CurSize(c); got != want || !impl.CursorOk(c) {
		t.Errorf("the size at %s is %d, not %d", briefCursor(c), got, want)
	}
}

// P9: how many nodes there are in each node.
func TestCurSize(t *testing.T) {
	for _, k := range []struct{ text, want string }{
		// Scalars, empty collections, collections in one another.
		{"", "0 0"}, {"a", "0 0 1 0 0"}, {"[]", "0 0 1 0 0 0"}, {"{}", "0 0 1 0 0 0"}, {"[a, b]", "0 0 3 1 1 0 0 0"}, {"{a: b}", "0 0 3 1 1 0 0 0"}, {"[[a], {b: [c, d]}, []]", "0 0 9 2 1 0 5 1 3 1 1 0 0 1 0 0 0 0"},
		// Aliases, and aliases of what has aliases.
		{curPlain, "0 0 7 1 1 3 1 1 0 1 0 0 0"}, {curChain, "0 0 12 1 2 1 0 4 2 1 0 4 0 0 0"}, {curWithin, "0 0 13 3 1 1 0 0 3 1 5 1 3 0 0 0 0"}, {curDeep, "0 0 36 1 2 1 0 3 2 0 4 3 0 5 4 0 6 5 0 7 6 0 7 0 0 0"},
		{"- &a x\n- *a\n- &b [*a, *a]\n- &a [*b, *b]\n- *a\n", "0 0 20 1 1 3 1 1 0 7 3 3 0 7 0 0 0"}, {"[&a {k: v}, [*a, {k: *a}]]", "0 0 13 3 1 1 0 9 3 5 1 3 0 0 0 0 0"},
		// Several documents, with the same names.
		{curDocs, "0 0 1 0 0 2 1 0 0 0"}, {"&a [x, y]\n--- [&a z, *a]\n--- [&a [&b [c, d], *b], *a]\n", "0 0 3 1 1 0 0 0 3 1 1 0 0 0 15 7 3 1 1 0 3 0 7 0 0 0"},
		// What a fault cuts off, and what was ended ahead of it.
		{curFault, "0 0 0 2 1 0 2 0 1 0 1 1 0"}, {"- &a [x]\n- &b [*a, *a]\n- [*b, 'c", "0 0 0 2 1 0 5 2 2 0 0 5 0"}, {"[", "0 0 0 0"}, {"{a: [b]", "0 0 0 1 2 1 0 0"}, {"[a]\n--- {b: c", "0 0 2 1 0 0 0 0 1 1 0"}, {curBehind, "0 0 1 0"}, {curBelow, "0 0 2 1 0 0"}, {"%", "0 0"},
		// Where an alias has no node, the fault is told.
		{"*x", "0 0 0"}, {"[&a [*a]]", "0 0 0 0 0"}, {"&a [x]\n--- *a\n", "0 0 2 1 0 0 0 0"},
	} {
		checkEach(t, checkSize, k.text, k.want)
	}
	// Within replays.
	checkSome(t, checkSize, curPlain, "4>3=1")
	checkSome(t, checkSize, curFault, "6>3=2 6>4=1 6>5=0 12=0 2=0")
	checkSome(t, checkSize, curWithin, "8>3=3 8>4=1 8>5=1 8>6=0 8>7=0 9>5=1 9>6=0 12>3=3 11>5=1")
	checkSome(t, checkSize, curChain, "8>4=2 8>5=1 8>5>3=1 11>7=4 11>8=2 11>9=1 11>10=0 11>8>4=2 11>8>5=1 11>8>6=0 11>8>5>3=1")
	checkSome(t, checkSize, curDeep, "22>19=7 22>20=6 22>20>17>14>11>8>4=2 22>20>17>14>11>8>5=1")
}

// doublings has n nodes behind the x, each of which is the one ahead of it, twice, in a list: the node k begins at place 4k, but for the x at place 3, and has 2 to the power of k+1, less 1, nodes.
func doublings(n int) string {
	s := "- &a0 x\n"
	for k := 1; k <= n; k++ {
		s += fmt.Sprintf("- &a%d [*a%d, *a%d]\n", k, k-1, k-1)
	}
	return s
}

// P9: nodes far greater than all events, up to the greatest number that is told, and beyond.
func TestCurSizeOfGreatNodes(t *testing.T) {
	at := func(text string, place, want int) {
		t.Helper()
		checkSize(t, impl.Cursor{Text: text, At: place}, want)
	}
	text := doublings(40) + "- [*a5, x]\n- &a0 [y]\n- *a0\n---\n- &a40 z\n- *a40\n"
	at(text, 3, 1)
	for k := 1; k <= 40; k++ {
		want := min(1<<(k+1)-1, impl.MaxNum)
		at(text, 4*k, want)
		at(text, 4*k+2, min(1<<k-1, impl.MaxNum))
		checkSize(t, impl.Cursor{Text: text, At: max(3, 4*(k-1)), Stack: []int{4*k + 2}}, min(1<<k-1, impl.MaxNum))
	}
	// The 32nd, k being 31, is as great as what is told may be.
	at(text, 4*30, 2147483647)
	at(text, 4*31, impl.MaxNum)
	at(text, 2, impl.MaxNum)
	// What stands behind them, in their document and in another one, is as small as it is.
	at(text, 4*41, 65)
	at(text, 4*41+1, 63)
	at(text, 4*41+4, 2)
	at(text, 4*41+7, 2)
	at(text, 4*41+11, 3)
	at(text, 4*41+12, 1)
	at(text, 4*41+13, 1)
	// Just below the greatest number, at it, above it.
	all := ""
	for k := range 31 {
		all += fmt.Sprintf("*a%d, ", k)
	}
	for more, want := range map[int]int{0: 1<<32 - 32, 29: impl.MaxNum - 2, 30: impl.MaxNum - 1, 31: impl.MaxNum, 32: impl.MaxNum, 33: impl.MaxNum} {
		text := doublings(30) + "- &b [" + all + strings.Repeat("x, ", more) + "]\n- *b\n- [*b]\n"
		at(text, 4*31, want)
		end := impl.EndOf(impl.Parse(text), 4*31)
		at(text, end+1, want)
		at(text, end+2, min(want+1, impl.MaxNum))
	}
}

// standing is what is told of where a cursor is.
type standing struct {
	depth, size int
	value       impl.Value
}

// standByRule is the second telling of that, at a spot that is right: it counts what was begun and not ended from the node of each alias to the next one, and goes through each node for its size.
func (s scene) standByRule(p spot) standing {
	var is standing
	from := 0
	for _, at := range append(slices.Clone(p.stack), p.at) {
		for _, e := range s.l[from:at] {
			if isCollection(e) {
				is.depth++
			}
			if e.Kind == 7 {
				is.depth--
			}
		}
		from = s.a.defs[at]
	}
	if isNode(s.l[p.at]) {
		is.value = valueByRule(s.l[s.nodeByRule(p.at)])
		is.size = s.sizeByRule(p.at)
	}
	return is
}

func (s scene) nodeByRule(at int) int {
	if s.l[at].Kind == 6 {
		return s.a.defs[at]
	}
	return at
}

// sizeByRule goes through a node, and through that of each alias again; not for nodes that are great.
func (s scene) sizeByRule(at int) int {
	at = s.nodeByRule(at)
	if s.a.ends[at] < 0 {
		return 0
	}
	n := 1
	for i := at + 1; i <= s.a.ends[at]; i++ {
		switch {
		case s.l[i].Kind == 6:
			n += s.sizeByRule(i)
		case isNode(s.l[i]):
			n++
		}
	}
	return n
}

func standingOf(c impl.Cursor) standing {
	return standing{impl.CurDepth(c), impl.CurSize(c), impl.CurValue(c)}
}

// checkStanding holds where a cursor is against the second telling, and against what is told of what it goes into.
func (s scene) checkStanding(t *testing.T, p spot, met map[string]int) {
	t.Helper()
	c := cursorAt(s.text, p)
	got, want := standingOf(c), s.standByRule(p)
	if got != want {
		t.Errorf("at %s are told %+v, not %+v", briefCursor(c), got, want)
	}
	e := s.l[p.at]
	path := impl.CurPath(c)
	if isNode(e) && got.depth != len(path) {
		t.Errorf("at %s the depth is %d, and the path %v", briefCursor(c), got.depth, path)
	}
	in, a := impl.CurEnter(c)
	if a.Code != 0 {
		return
	}
	inner := standingOf(in)
	if e.Kind == 6 {
		met["alias"]++
		if inner != got {
			t.Errorf("at %s are told %+v, and in the alias %+v", briefCursor(c), got, inner)
		}
		return
	}
	met[fmt.Sprint("into ", s.l[in.At].Kind)]++
	if inner.depth != got.depth+1 {
		t.Errorf("at %s the depth is %d, and within %d", briefCursor(c), got.depth, inner.depth)
	}
	if isNode(s.l[in.At]) && len(impl.CurPath(in)) != len(path)+1 {
		t.Errorf("at %s the path is %v, and within %v", briefCursor(c), path, impl.CurPath(in))
	}
	if got.size > 0 && inner.size >= got.size {
		t.Errorf("at %s the size is %d, and within %d", briefCursor(c), got.size, inner.size)
	}
}

// P3, P9: depth, value and size at each spot of streams of all kinds.
func TestStandingOfManyStreams(t *testing.T) {
	met := map[string]int{}
	check := func(text string) {
		s := sceneOf(text)
		s.eachSpot(func(p spot) { s.checkStanding(t, p, met) })
	}
	for _, text := range append(scenesByHand(), curDeep, curApart, "- &a {x: 1}\n- &b {*a : *a}\n- &c [*b, {z: *b}]\n- &d {w: *c}\n- &e [*d]\n- &f {v: [*e]}\n- &g [*f]\n- *g\n") {
		check(text)
	}
	eachText([]string{"[", "], ", "&a 12, ", "&a {", "*a ", ": *a, ", "}, "}, 4, func(s string) { check("[&a [x], " + s) })
	eachText([]string{"- &a true\n", "- &b [*a]\n", "- &a {*b : y}\n", "- *a\n", "- *b\n", "- ['\n", "---\n"}, 4, check)
	writtenStreams(60, 3, func(w *streamScribe) {
		check(w.text)
		check(w.text[:len(w.text)*2/3])
	})
	wantCounts(t, met, 50, "alias", "into 3", "into 4", "into 5", "into 6", "into 7", "into 10")
}

// checkTakenBack: a cursor rewound to its mark stands where it stood when that was set.
func checkTakenBack(t *testing.T, marked, c impl.Cursor, id int) {
	t.Helper()
	back, code := impl.CurRewind(c, id)
	if code != 0 || !impl.CursorOk(back) {
		t.Errorf("back from %s to %d is at %s with %d", briefCursor(c), id, briefCursor(back), code)
	}
	// Ids that were given meanwhile aren't given again; all else is as it was.
	want := cloneCursor(marked)
	want.Last = c.Last
	if !alikeCursors(back, want) {
		t.Errorf("back from %s to %d is at %s, not at %s", briefCursor(c), id, briefCursor(back), briefCursor(want))
	}
	if standingOf(back) != standingOf(marked) || impl.CurEvent(back) != impl.CurEvent(marked) {
		t.Errorf("back at %s are told other things than at %s", briefCursor(back), briefCursor(marked))
	}
	for _, move := range moves {
		a, first := move.call(marked)
		b, second := move.call(back)
		if first != second || !slices.Equal(a.Stack, b.Stack) || a.At != b.At {
			t.Errorf("%s at %s isn't what it was at %s", move.name, briefCursor(back), briefCursor(marked))
		}
	}
}

// P1: a mark takes back each call, and each call behind another one.
func TestMarksTakeBackEachCall(t *testing.T) {
	for _, text := range append(scenesByHand(), curDeep) {
		sceneOf(text).eachSpot(func(p spot) {
			marked, id := impl.CurMark(cursorAt(text, p))
			if id != 1 {
				t.Errorf("the first mark at %s has the Id %d", p, id)
			}
			for _, one := range moves {
				c, _ := one.call(marked)
				checkTakenBack(t, marked, c, id)
				c, _ = impl.CurMark(c)
				checkTakenBack(t, marked, c, id)
				for _, other := range moves {
					d, _ := other.call(c)
					back, code := impl.CurRewind(d, id)
					if code != 0 || back.At != p.at || !slices.Equal(back.Stack, p.stack) || len(back.Marks) != 1 || back.Last != 2 {
						t.Errorf("behind %s and %s a cursor is back at %s, not at %s", one.name, other.name, briefCursor(back), p)
					}
				}
			}
		})
	}
}

// markWalk is a walk in which marks are set, dropped and gone back to; the cursors that were marked are kept.
type markWalk struct {
	scene
	r      *rand.Rand
	c      impl.Cursor
	marked map[int]impl.Cursor
	met    map[string]int
}

// someId is mostly the Id of a mark that is there.
func (w *markWalk) someId() int {
	if len(w.c.Marks) == 0 || w.r.IntN(6) == 0 {
		return w.r.IntN(w.c.Last+3) - 1
	}
	return w.c.Marks[w.r.IntN(len(w.c.Marks))].Id
}

func (w *markWalk) mark(t *testing.T) {
	t.Helper()
	want, id := markedByRule(w.c)
	checkMarking(t, w.c, want, id)
	w.c, _ = impl.CurMark(w.c)
	w.met[fmt.Sprint("CurMark ", min(id, 1))]++
	if id > 0 {
		w.marked[id] = cloneCursor(w.c)
	}
}

func (w *markWalk) back(t *testing.T, back int) {
	t.Helper()
	id := w.someId()
	want, code := backs[back].rule(w.c, id)
	checkBack(t, back, w.c, id, want, code)
	was := w.c
	w.c, _ = backs[back].call(w.c, id)
	w.met[fmt.Sprint(backs[back].name, " ", code)]++
	if back == 0 && code == 0 {
		if len(was.Stack) != len(w.c.Stack) {
			w.met["to other replays"]++
		}
		// Marks ahead may have been dropped since it was set.
		marked := w.marked[id]
		marked.Marks = want.Marks
		checkTakenBack(t, marked, was, id)
	}
}

func (w *markWalk) walk(t *testing.T, steps int) {
	t.Helper()
	for range steps {
		switch kind := w.r.IntN(12); {
		case kind < 7:
			move := []int{0, 0, 1, 1, 1, 2, 3}[kind]
			// What lies within aliases should be met often.
			if w.l[w.c.At].Kind == 6 && w.r.IntN(2) == 0 {
				move = 1
			}
			w.checkTurn(t, move, w.c, w.met)
			w.c, _ = moves[move].call(w.c)
		case kind < 10:
			w.mark(t)
		default:
			w.back(t, kind-10)
		}
		if !impl.CursorOk(w.c) {
			t.Errorf("a walk came to %s", briefCursor(w.c))
		}
		if got, want := standingOf(w.c), w.standByRule(spotOf(w.c)); got != want {
			t.Errorf("at %s are told %+v, not %+v", briefCursor(w.c), got, want)
		}
	}
}

// P1: in every walk each call leaves a right cursor, and a mark takes everything back that was called since.
func TestMarksInWalksByChance(t *testing.T) {
	met := map[string]int{}
	walk := func(r *rand.Rand, text string, steps int) {
		s := sceneOf(text)
		var spots []spot
		s.eachSpot(func(p spot) { spots = append(spots, p) })
		for _, p := range []spot{{}, spots[r.IntN(len(spots))]} {
			w := markWalk{s, r, cursorAt(text, p), map[int]impl.Cursor{}, met}
			w.walk(t, steps)
		}
	}
	for i, text := range append(scenesByHand(), curDeep) {
		walk(chance(uint64(i)), text, 60)
	}
	for i, text := range []string{curPlain, curChain, curWithin, curFault, curDeep, "- &a [&b x, *b]\n- [*a, *a, [*b, *a]]\n- *a\n"} {
		for j := range 8 {
			walk(chance(uint64(1000+10*i+j)), text, 80)
		}
	}
	writtenStreams(40, 3, func(w *streamScribe) {
		walk(w.r, w.text, 40)
		walk(w.r, w.text[:w.r.IntN(len(w.text)+1)], 30)
	})
	wantCounts(t, met, 50, "CurMark 0", "CurMark 1", "CurRewind 0", "CurRewind 5", "CurDrop 0", "CurDrop 5", "to other replays")
}

// markCalls are the calls of this layer that answer a cursor, with Ids that are there and that aren't.
func markCalls() map[string]func(impl.Cursor) (impl.Cursor, int) {
	calls := map[string]func(impl.Cursor) (impl.Cursor, int){"CurMark": impl.CurMark}
	for _, back := range backs {
		for _, id := range []int{0, 1, 2, 3, 4, 5} {
			calls[fmt.Sprint(back.name, " to ", id)] = func(c impl.Cursor) (impl.Cursor, int) { return back.call(c, id) }
		}
	}
	return calls
}

// Chapter 1: what is handed in isn't changed, nor what stands behind it.
func TestMarksLeaveWhatIsHandedIn(t *testing.T) {
	for _, c := range cursorsToKeep() {
		given := walledCursor(c)
		standingOf(given)
		for name, call := range markCalls() {
			if call(given); !alikeCursors(given, c) || !cursorWallStands(given) {
				t.Errorf("%s changed %s into %s", name, briefCursor(c), briefCursor(given))
			}
		}
	}
}

// Chapter 1: an answer hangs on the arguments alone; a later call doesn't change it, nor does writing into another or into what was handed in.
func TestMarksKeepNothing(t *testing.T) {
	for _, c := range cursorsToKeep() {
		was := standingOf(c)
		for name, call := range markCalls() {
			given := cloneCursor(c)
			first, n := call(given)
			kept := cloneCursor(first)
			other, _ := call(given)
			spoilCursor(other)
			if !alikeCursors(given, c) || !alikeCursors(first, kept) {
				t.Errorf("what %s answers to %s shares memory with it or with an earlier answer", name, briefCursor(c))
			}
			spoilCursor(given)
			if !alikeCursors(first, kept) {
				t.Errorf("what %s answers to %s changes with it", name, briefCursor(c))
			}
			for _, next := range markCalls() {
				next(first)
			}
			standingOf(first)
			again, m := call(cloneCursor(c))
			if !alikeCursors(first, kept) || !alikeCursors(again, kept) || n != m {
				t.Errorf("%s answers %s to %s, and then %s", name, briefCursor(kept), briefCursor(c), briefCursor(again))
			}
		}
		if now := standingOf(c); now != was {
			t.Errorf("at %s were told %+v, and then %+v", briefCursor(c), was, now)
		}
	}
}

// Chapter 1: no two lists of an answer share memory, also where those of the argument do.
func TestMarkAnswersShareNothing(t *testing.T) {
	for _, c := range cursorsToKeep() {
		for i := range c.Marks {
			c.Marks[i].At, c.Marks[i].Stack = c.At, c.Stack
		}
		for name, call := range markCalls() {
			got, _ := call(c)
			want := cloneCursor(got)
			for i := range got.Marks {
				spoilPlaces(got.Marks[i].Stack)
				rest := cloneCursor(got)
				rest.Marks[i].Stack = want.Marks[i].Stack
				if !alikeCursors(rest, want) {
					t.Errorf("of what %s answers to %s, the stack of mark %d shares memory with another list", name, briefCursor(c), i)
				}
				copy(got.Marks[i].Stack, want.Marks[i].Stack)
			}
			spoilPlaces(got.Stack)
			if got.Stack = want.Stack; !alikeCursors(got, want) {
				t.Errorf("of what %s answers to %s, the stack shares memory with another list", name, briefCursor(c))
			}
		}
	}
}

// Every call ends, in time, also for great texts and for nodes that no one could go through.
func TestGreatMarks(t *testing.T) {
	text := doublings(2300)
	if len(text) > impl.MaxText {
		t.Fatalf("the text has %d bytes", len(text))
	}
	for _, k := range []int{1, 30, 31, 62, 63, 64, 65, 1000, 2300} {
		checkSize(t, impl.Cursor{Text: text, At: 4 * k}, map[bool]int{true: 1<<min(k+1, 32) - 1, false: impl.MaxNum}[k < 31])
	}
	checkSize(t, impl.Cursor{Text: text, At: 2}, impl.MaxNum)
	c := cursorIn(text, "9198>9194>9190>9186>9182>9178>9172 1=0 2=9198>9192 ^2")
	checkSize(t, c, impl.MaxNum)
	checkDepth(t, c, 7)
	checkMarking(t, c, cursorIn(text, "9198>9194>9190>9186>9182>9178>9172 1=0 2=9198>9192 3=9198>9194>9190>9186>9182>9178>9172 ^3"), 3)
	checkBack(t, 0, c, 2, cursorIn(text, "9198>9192 1=0 2=9198>9192 ^2"), 0)
	checkBack(t, 1, c, 1, cursorIn(text, "9198>9194>9190>9186>9182>9178>9172 2=9198>9192 ^2"), 0)
	// As many times the greatest as there can be.
	wide := doublings(40) + strings.Repeat("- *a40\n", 8000)
	checkSize(t, impl.Cursor{Text: wide, At: 2}, impl.MaxNum)
	flat := "[" + strings.Repeat("a,", impl.MaxText/2-1) + "]"
	checkSize(t, impl.Cursor{Text: flat, At: 2}, impl.MaxText/2)
	checkDepth(t, impl.Cursor{Text: flat, At: impl.MaxText / 2}, 1)
	// As many as don't go on a stack and into marks.
	const many = 1 << 20
	for _, c := range []impl.Cursor{
		{Text: curPlain, At: 3, Stack: slices.Repeat([]int{4}, many)}, {Text: curPlain, Marks: make([]impl.Mark, many), Last: impl.MaxNum}, {Text: curPlain, Marks: []impl.Mark{{Id: 1, Stack: slices.Repeat([]int{4}, many)}}, Last: 1}, {Text: strings.Repeat("- [", many), At: 2},
	} {
		if got, id := impl.CurMark(c); id != 0 || !alikeCursors(got, impl.Cursor{}) {
			t.Errorf("CurMark at %s is at %s with %d", briefCursor(c), briefCursor(got), id)
		}
		if got, code := impl.CurRewind(c, 1); code != 1 || !alikeCursors(got, impl.Cursor{}) {
			t.Errorf("CurRewind at %s is at %s with %d", briefCursor(c), briefCursor(got), code)
		}
		if is := standingOf(c); is != (standing{depth: -1}) {
			t.Errorf("at %s are told %+v", briefCursor(c), is)
		}
	}
}
