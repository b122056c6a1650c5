package tests

import (
	"slices"
	"strings"
	"testing"

	"loop.example/g00666/impl"
)

// eachList tells every list of at most so many of the given things.
func eachList[T any](things []T, most int, f func([]T)) {
	f(nil)
	var grow func(l []T)
	grow = func(l []T) {
		if len(l) > 0 {
			f(slices.Clone(l))
		}
		if len(l) == most {
			return
		}
		for _, x := range things {
			grow(append(slices.Clone(l), x))
		}
	}
	grow(nil)
}

func pieces(l ...string) []impl.Piece {
	var out []impl.Piece
	for _, s := range l {
		text, glue := strings.CutSuffix(s, "+")
		out = append(out, impl.Piece{Text: text, Glue: glue})
	}
	return out
}

// flowByRule first tells which pieces come, and then what stands between each two of them.
func flowByRule(l []impl.Piece) string {
	var come []int
	for i, x := range l {
		if i == 0 || i == len(l)-1 || x.Text != "" || x.Glue {
			come = append(come, i)
		}
	}
	out := ""
	for n, i := range come {
		if n > 0 {
			from := come[n-1]
			between := " "
			if l[from].Glue {
				between = ""
			}
			if i-from > 1 {
				between = strings.Repeat("\n", i-from-1)
			}
			out += between
		}
		out += l[i].Text
	}
	return out
}

// foldByRule first tells which lines aren't empty, and then what stands between each two of them.
func foldByRule(l []string) string {
	var some []int
	for i, s := range l {
		if s != "" {
			some = append(some, i)
		}
	}
	out := ""
	for n, i := range some {
		if n == 0 {
			out += strings.Repeat("\n", i) + l[i]
			continue
		}
		between := strings.Repeat("\n", i-some[n-1]-1)
		if strings.Trim(l[some[n-1]][:1]+l[i][:1], " \t") != l[some[n-1]][:1]+l[i][:1] {
			between += "\n"
		} else if between == "" {
			between = " "
		}
		out += between + l[i]
	}
	return out
}

func blockByRule(l []string, folded bool, chomp int) string {
	body := slices.Clone(l)
	var end string
	for len(body) > 0 && body[len(body)-1] == "" {
		body, end = body[:len(body)-1], end+"\n"
	}
	text := ""
	if folded {
		text = foldByRule(body)
	} else {
		for i, s := range body {
			if i > 0 {
				text += "\n"
			}
			text += s
		}
	}
	switch {
	case len(body) == 0 && chomp == 2:
		return end
	case len(body) == 0 || chomp == 1:
		return text
	case chomp == 2:
		return text + "\n" + end
	}
	return text + "\n"
}

func TestChomps(t *testing.T) {
	if impl.ChClip != 0 || impl.ChStrip != 1 || impl.ChKeep != 2 {
		t.Error("ChClip, ChStrip, ChKeep", impl.ChClip, impl.ChStrip, impl.ChKeep)
	}
	var number int = impl.ChKeep
	if number != 2 {
		t.Error("a chomp is a number like any other", number)
	}
}

// P9: the edges of FoldFlow; a + at the end of a piece stands for its Glue.
func TestFoldFlowEdges(t *testing.T) {
	for _, x := range []struct {
		l    []impl.Piece
		want string
	}{
		{nil, ""},
		{[]impl.Piece{}, ""},
		{pieces("a"), "a"},
		{pieces("a+"), "a"},
		{pieces(""), ""},
		{pieces("+"), ""},
		{pieces("a", "b"), "a b"},
		{pieces("a", "b", "c"), "a b c"},
		{pieces("", ""), " "},
		{pieces("", "a"), " a"},
		{pieces("a", ""), "a "},
		{pieces("", "a", ""), " a "},
		{pieces("", "", "a"), "\na"},
		{pieces("", "", ""), "\n"},
		{pieces("", "", "", ""), "\n\n"},
		{pieces("a", "", "b"), "a\nb"},
		{pieces("a", "", "", "b"), "a\n\nb"},
		{pieces("a", "", "", "", "b"), "a\n\n\nb"},
		{pieces("a", "", ""), "a\n"},
		{pieces("a", "", "", ""), "a\n\n"},
		{pieces("a", "", "b", "", "", "c", "d"), "a\nb\n\nc d"},
		{pieces("a+", "b"), "ab"},
		{pieces("a", "b+"), "a b"},
		{pieces("a+", "b+"), "ab"},
		{pieces("a+", "b", "c"), "ab c"},
		{pieces("a", "b+", "c"), "a bc"},
		{pieces("a+", "", "b"), "a\nb"},
		{pieces("a+", "", "", "b"), "a\n\nb"},
		{pieces("a+", ""), "a"},
		{pieces("a+", "", ""), "a\n"},
		{pieces("+", "a"), "a"},
		{pieces("+", ""), ""},
		{pieces("+", "", "a"), "\na"},
		{pieces("a", "+"), "a "},
		{pieces("a", "+", "b"), "a b"},
		{pieces("a+", "+", "b"), "ab"},
		{pieces("a", "+", "+", "b"), "a b"},
		{pieces("a", "", "+", "b"), "a\nb"},
		{pieces("a", "+", "", "b"), "a \nb"},
		{pieces("a", "", "+", "", "b"), "a\n\nb"},
		{pieces("a", "", "+"), "a\n"},
		{pieces("a+", "", "+"), "a\n"},
		{pieces("a+", "+"), "a"},
		{pieces("a", " ", "b"), "a   b"},
		{pieces("a", "\t", "b"), "a \t b"},
		{pieces("a\n", "\nb"), "a\n \nb"},
		{pieces("a", "\n", "b"), "a \n b"},
		{pieces("a\x00", "\x00", "\xff", "\xc3", "\xa9"), "a\x00 \x00 \xff \xc3 \xa9"},
		{pieces("\xc3+", "\xa9"), "é"},
		{pieces("a\r", "\r"), "a\r \r"},
	} {
		if got := impl.FoldFlow(x.l); got != x.want {
			t.Errorf("FoldFlow(%#v) = %q, not %q", x.l, got, x.want)
		}
	}
}

// P9: the edges of FoldBlock.
func TestFoldBlockEdges(t *testing.T) {
	for _, x := range []struct {
		l    []string
		want string
	}{
		{nil, ""},
		{[]string{}, ""},
		{[]string{"a"}, "a"},
		{[]string{" a"}, " a"},
		{[]string{" "}, " "},
		{[]string{"\t"}, "\t"},
		{[]string{""}, ""},
		{[]string{"", ""}, ""},
		{[]string{"", "", ""}, ""},
		{[]string{"", "a"}, "\na"},
		{[]string{"", "", "a"}, "\n\na"},
		{[]string{"", "", "", "a"}, "\n\n\na"},
		{[]string{"", " a"}, "\n a"},
		{[]string{"", "", "\ta"}, "\n\n\ta"},
		{[]string{"a", "b"}, "a b"},
		{[]string{"a", "b", "c"}, "a b c"},
		{[]string{"a", "", "b"}, "a\nb"},
		{[]string{"a", "", "", "b"}, "a\n\nb"},
		{[]string{"a", "", "", "", "b"}, "a\n\n\nb"},
		{[]string{"a", ""}, "a"},
		{[]string{"a", "", ""}, "a"},
		{[]string{" a", "", ""}, " a"},
		{[]string{"", "a", "", "b", "", "", "c", "d", "", ""}, "\na\nb\n\nc d"},
		{[]string{" a", "b"}, " a\nb"},
		{[]string{"a", " b"}, "a\n b"},
		{[]string{" a", " b"}, " a\n b"},
		{[]string{"\ta", "b"}, "\ta\nb"},
		{[]string{"a", "\tb"}, "a\n\tb"},
		{[]string{"\ta", "\tb"}, "\ta\n\tb"},
		{[]string{"\ta", " b"}, "\ta\n b"},
		{[]string{" a", "", "b"}, " a\n\nb"},
		{[]string{"a", "", " b"}, "a\n\n b"},
		{[]string{" a", "", " b"}, " a\n\n b"},
		{[]string{"\ta", "", "", "b"}, "\ta\n\n\nb"},
		{[]string{"a", "", "", "\tb"}, "a\n\n\n\tb"},
		{[]string{"\ta", "", "", "\tb"}, "\ta\n\n\n\tb"},
		{[]string{"a", " ", "b"}, "a\n \nb"},
		{[]string{"a", "", " ", "", "b"}, "a\n\n \n\nb"},
		{[]string{"a", " "}, "a\n "},
		{[]string{" ", "a"}, " \na"},
		{[]string{"a", "b", " c", "d", "e"}, "a b\n c\nd e"},
		{[]string{"a ", "b\t", "c"}, "a  b\t c"},
		{[]string{"a\nb", "c"}, "a\nb c"},
		{[]string{"a", "\n", "b"}, "a \n b"},
		{[]string{"\n a", "b"}, "\n a b"},
		{[]string{"a\tb", "c d"}, "a\tb c d"},
		{[]string{"\x00", "a", "\x00"}, "\x00 a \x00"},
		{[]string{"\xff", "\xc3", "\xa9"}, "\xff \xc3 \xa9"},
		{[]string{"\v", "\r", "\u00a0"}, "\v \r \u00a0"},
	} {
		if got := impl.FoldBlock(x.l); got != x.want {
			t.Errorf("FoldBlock(%#v) = %q, not %q", x.l, got, x.want)
		}
	}
}

// P9: the edges of BlockText, for each chomp: clipped, stripped and kept.
func TestBlockTextEdges(t *testing.T) {
	for _, x := range []struct {
		l      []string
		folded bool
		want   [3]string
	}{
		{nil, false, [3]string{"", "", ""}},
		{nil, true, [3]string{"", "", ""}},
		{[]string{}, false, [3]string{"", "", ""}},
		{[]string{}, true, [3]string{"", "", ""}},
		{[]string{""}, false, [3]string{"", "", "\n"}},
		{[]string{""}, true, [3]string{"", "", "\n"}},
		{[]string{"", ""}, false, [3]string{"", "", "\n\n"}},
		{[]string{"", ""}, true, [3]string{"", "", "\n\n"}},
		{[]string{"", "", ""}, false, [3]string{"", "", "\n\n\n"}},
		{[]string{"", "", ""}, true, [3]string{"", "", "\n\n\n"}},
		{[]string{"a"}, false, [3]string{"a\n", "a", "a\n"}},
		{[]string{"a"}, true, [3]string{"a\n", "a", "a\n"}},
		{[]string{" "}, false, [3]string{" \n", " ", " \n"}},
		{[]string{"\t"}, true, [3]string{"\t\n", "\t", "\t\n"}},
		{[]string{"a", ""}, false, [3]string{"a\n", "a", "a\n\n"}},
		{[]string{"a", ""}, true, [3]string{"a\n", "a", "a\n\n"}},
		{[]string{"a", "", ""}, false, [3]string{"a\n", "a", "a\n\n\n"}},
		{[]string{"a", "", ""}, true, [3]string{"a\n", "a", "a\n\n\n"}},
		{[]string{"a", "b"}, false, [3]string{"a\nb\n", "a\nb", "a\nb\n"}},
		{[]string{"a", "b"}, true, [3]string{"a b\n", "a b", "a b\n"}},
		{[]string{"a", "", "b", "", ""}, false, [3]string{"a\n\nb\n", "a\n\nb", "a\n\nb\n\n\n"}},
		{[]string{"a", "", "b", "", ""}, true, [3]string{"a\nb\n", "a\nb", "a\nb\n\n\n"}},
		{[]string{"", "a"}, false, [3]string{"\na\n", "\na", "\na\n"}},
		{[]string{"", "a"}, true, [3]string{"\na\n", "\na", "\na\n"}},
		{[]string{"", "", "a", ""}, false, [3]string{"\n\na\n", "\n\na", "\n\na\n\n"}},
		{[]string{"", "", "a", ""}, true, [3]string{"\n\na\n", "\n\na", "\n\na\n\n"}},
		{[]string{"a", " b", "c"}, false, [3]string{"a\n b\nc\n", "a\n b\nc", "a\n b\nc\n"}},
		{[]string{"a", " b", "c"}, true, [3]string{"a\n b\nc\n", "a\n b\nc", "a\n b\nc\n"}},
		{[]string{"a", " ", ""}, true, [3]string{"a\n \n", "a\n ", "a\n \n\n"}},
		{[]string{"a\n", "\n", ""}, false, [3]string{"a\n\n\n\n", "a\n\n\n", "a\n\n\n\n\n"}},
		{[]string{"a\n", "\n", ""}, true, [3]string{"a\n \n\n", "a\n \n", "a\n \n\n\n"}},
		{[]string{"\x00", "\xff", "a\tb"}, false, [3]string{"\x00\n\xff\na\tb\n", "\x00\n\xff\na\tb", "\x00\n\xff\na\tb\n"}},
		{[]string{"\x00", "\xff", "a\tb"}, true, [3]string{"\x00 \xff a\tb\n", "\x00 \xff a\tb", "\x00 \xff a\tb\n"}},
	} {
		for chomp, want := range x.want {
			if got := impl.BlockText(x.l, x.folded, chomp); got != want {
				t.Errorf("BlockText(%#v, %v, %d) = %q, not %q", x.l, x.folded, chomp, got, want)
			}
		}
	}
}

// P9: a chomp that is none of the three is as ChClip.
func TestWrongChomps(t *testing.T) {
	eachList([]string{"", "a", " b"}, 4, func(l []string) {
		for _, folded := range []bool{false, true} {
			want := impl.BlockText(l, folded, impl.ChClip)
			for _, chomp := range []int{-1, -2, -3, 3, 4, 5, 255, 256, 257, 258, 1 << 32, 1<<32 + 1, 1<<32 + 2, lowest, lowest + 1, lowest + 2, highest, highest - 1} {
				if got := impl.BlockText(l, folded, chomp); got != want {
					t.Fatalf("BlockText(%#v, %v, %d) = %q, not %q", l, folded, chomp, got, want)
				}
			}
		}
	})
}

// P9: pieces are put together as a second telling has it.
func TestFoldFlowOfManyLists(t *testing.T) {
	ask := func(l []impl.Piece) {
		if got, want := impl.FoldFlow(l), flowByRule(l); got != want {
			t.Fatalf("FoldFlow(%#v) = %q, not %q", l, got, want)
		}
	}
	eachList(pieces("", "+", "a", "b+"), 7, ask)
	eachList(pieces("", "+", "a", "b+", " ", "\t+", "\n", "\n+", "\x00", "\xff+", "é"), 4, ask)
}

// P9: lines are put together as a second telling has it, folded and not, with every chomp.
func TestBlocksOfManyLists(t *testing.T) {
	ask := func(l []string) {
		if got, want := impl.FoldBlock(l), foldByRule(l); got != want {
			t.Fatalf("FoldBlock(%#v) = %q, not %q", l, got, want)
		}
		for chomp := -1; chomp <= 3; chomp++ {
			for _, folded := range []bool{false, true} {
				if got, want := impl.BlockText(l, folded, chomp), blockByRule(l, folded, chomp); got != want {
					t.Fatalf("BlockText(%#v, %v, %d) = %q, not %q", l, folded, chomp, got, want)
				}
			}
		}
	}
	eachList([]string{"", "a", " b"}, 7, ask)
	eachList([]string{"", "a", " b", "\tc", " ", "\t", "\n", "\n d", "e ", "\x00", "\xff", "é"}, 4, ask)
}

// P9: only a blank and a tab as the first byte make a line far.
func TestEveryFirstByteOfALine(t *testing.T) {
	for b := range 256 {
		line := string([]byte{byte(b)}) + "z"
		between := " "
		if b == 32 || b == 9 {
			between = "\n"
		}
		for _, l := range [][]string{{"a", line}, {line, "a"}, {line, line}} {
			if got, want := impl.FoldBlock(l), l[0]+between+l[1]; got != want {
				t.Errorf("FoldBlock(%#v) = %q, not %q", l, got, want)
			}
		}
	}
}

// nearOnes tells whether of the lines none is far and no two have an empty one between them.
func nearOnes(l []string) bool {
	body := strings.Trim(strings.Join(l, "\n"), "\n")
	if strings.Contains(body, "\n\n") {
		return false
	}
	return !slices.ContainsFunc(l, func(s string) bool { return s != "" && strings.ContainsAny(s[:1], " \t") })
}

// P5: lines that are folded differ from lines that are kept in blanks for breaks alone: one for each two neighbours.
func TestFoldedDiffersInBlanksForBreaks(t *testing.T) {
	asked := 0
	eachList([]string{"", "a", "b c", "d ", " far", "\tfar", "é"}, 5, func(l []string) {
		if !nearOnes(l) {
			return
		}
		asked++
		full := 0
		for _, s := range l {
			if s != "" {
				full++
			}
		}
		for chomp := impl.ChClip; chomp <= impl.ChKeep; chomp++ {
			folded, kept := impl.BlockText(l, true, chomp), impl.BlockText(l, false, chomp)
			if len(folded) != len(kept) {
				t.Fatalf("BlockText(%#v, .., %d): %q and %q aren't of the same length", l, chomp, folded, kept)
			}
			other := 0
			for i := range len(kept) {
				if folded[i] == kept[i] {
					continue
				}
				other++
				if folded[i] != ' ' || kept[i] != '\n' {
					t.Fatalf("BlockText(%#v, .., %d): %q and %q differ at %d", l, chomp, folded, kept, i)
				}
			}
			if other != max(full-1, 0) {
				t.Fatalf("BlockText(%#v, .., %d): %q and %q differ in %d places", l, chomp, folded, kept, other)
			}
		}
	})
	if asked < 500 {
		t.Error("too few lists were asked:", asked)
	}
}

// P5: what isn't a blank or a break stays as it was and where it was, in whichever way lines are put together.
func TestFoldsKeepTheTexts(t *testing.T) {
	bare := strings.NewReplacer(" ", "", "\n", "")
	eachList([]string{"", "a", " b", "\tc", "d e", "\xff\x00"}, 5, func(l []string) {
		want := bare.Replace(strings.Join(l, ""))
		for _, got := range []string{
			impl.FoldFlow(pieces(l...)),
			impl.FoldBlock(l),
			impl.BlockText(l, true, impl.ChKeep),
			impl.BlockText(l, false, impl.ChStrip),
		} {
			if bare.Replace(got) != want {
				t.Fatalf("%#v put together is %q", l, got)
			}
		}
	})
}

// P5: pieces without Glue, none of them empty, differ from their lines in a blank for each break.
func TestPiecesDifferInBlanksForBreaks(t *testing.T) {
	eachList([]string{"a", " b", "c\t", "é"}, 5, func(l []string) {
		want := strings.ReplaceAll(strings.Join(l, "\n"), "\n", " ")
		if got := impl.FoldFlow(pieces(l...)); got != want {
			t.Fatalf("FoldFlow(%#v) = %q, not %q", l, got, want)
		}
	})
}

// Chapter 1: what is handed in is not written into, also where there is room behind it.
func TestFoldsLeaveTheirLists(t *testing.T) {
	lines := []string{"", "a", "", " b", "c", "", "", "behind"}
	room := slices.Clone(lines)
	for range 2 {
		for chomp := -1; chomp <= 3; chomp++ {
			impl.BlockText(room[:7], true, chomp)
			impl.BlockText(room[:7], false, chomp)
		}
		impl.FoldBlock(room[:7])
	}
	if !slices.Equal(room, lines) {
		t.Errorf("lines became %#v", room)
	}
	list := pieces("", "a", "+", "", "b+", "", "", "behind")
	kept := slices.Clone(list)
	impl.FoldFlow(list[:7])
	if !slices.Equal(list, kept) {
		t.Errorf("pieces became %#v", list)
	}
}

// Chapter 1: what a call answers hangs on its arguments alone.
func TestFoldsKeepNothing(t *testing.T) {
	lines, list := []string{"a", "", " b", ""}, pieces("a", "", "b+", "c")
	for range 3 {
		if got := impl.FoldFlow(list); got != "a\nbc" {
			t.Errorf("FoldFlow is %q", got)
		}
		if got := impl.FoldBlock(lines); got != "a\n\n b" {
			t.Errorf("FoldBlock is %q", got)
		}
		if got := impl.BlockText(lines, true, impl.ChKeep); got != "a\n\n b\n\n" {
			t.Errorf("BlockText is %q", got)
		}
		impl.FoldFlow(pieces("x+", "y"))
		impl.BlockText([]string{"x"}, false, impl.ChStrip)
	}
}

// Every call ends, in time, also for great lists.
func TestGreatFolds(t *testing.T) {
	const many = 300000
	empties := make([]string, many)
	full := make([]string, many)
	mixed := make([]string, many)
	for i := range many {
		full[i] = "ab"
		if i%2 == 0 {
			mixed[i] = "ab"
		}
	}
	breaks := strings.Repeat("\n", many)
	if got := impl.BlockText(empties, true, impl.ChKeep); got != breaks {
		t.Error("empty lines that are kept:", len(got))
	}
	if got := impl.FoldBlock(empties); got != "" {
		t.Error("empty lines that are folded:", len(got))
	}
	if got := impl.FoldBlock(append(empties, "a")); got != breaks+"a" {
		t.Error("empty lines ahead:", len(got))
	}
	if got := impl.FoldBlock(full); got != strings.Repeat("ab ", many)[:3*many-1] {
		t.Error("full lines that are folded:", len(got))
	}
	if got := impl.BlockText(full, false, impl.ChClip); got != strings.Repeat("ab\n", many) {
		t.Error("full lines that are kept:", len(got))
	}
	if got := impl.BlockText(mixed, true, impl.ChKeep); got != strings.Repeat("ab\n", many/2)+"\n" {
		t.Error("full lines and empty ones:", len(got))
	}
	if got := impl.FoldFlow(make([]impl.Piece, many)); got != breaks[2:] {
		t.Error("empty pieces:", len(got))
	}
	if got := impl.FoldFlow(pieces(full...)); got != strings.Repeat("ab ", many)[:3*many-1] {
		t.Error("full pieces:", len(got))
	}
}
