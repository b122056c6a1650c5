package tests

import (
	"bytes"
	"slices"
	"strings"
	"testing"

	"loop.example/g00666/impl"
)

// sameSource holds two sources against each other; an empty list and nil are the same.
func sameSource(a, b impl.Source) bool {
	return a.Size == b.Size && a.Fetched == b.Fetched && slices.EqualFunc(a.Pages, b.Pages, func(x, y impl.Page) bool {
		return x.Num == y.Num && bytes.Equal(x.Data, y.Data)
	})
}

// copySource is a source that shares nothing with s.
func copySource(s impl.Source) impl.Source {
	c := s
	c.Pages = nil
	for _, p := range s.Pages {
		c.Pages = append(c.Pages, impl.Page{Num: p.Num, Data: bytes.Clone(p.Data)})
	}
	return c
}

// page and pagesOf write sources short.
func page(num int, data string) impl.Page {
	return impl.Page{Num: num, Data: []byte(data)}
}

func pagesOf(size, fetched int, l ...impl.Page) impl.Source {
	return impl.Source{Size: size, Pages: l, Fetched: fetched}
}

// manyPages: n pages without bytes, numbered from 0.
func manyPages(n int) []impl.Page {
	var l []impl.Page
	for i := range n {
		l = append(l, page(i, ""))
	}
	return l
}

// byteByRule is SourceByte by the document's words, by lists alone.
func byteByRule(s impl.Source, b string, at int) (impl.Source, int) {
	out := impl.Source{Size: s.Size, Fetched: s.Fetched}
	num := at / s.Size
	var last impl.Page
	there := false
	for _, p := range s.Pages {
		if p.Num == num {
			last, there = p, true
		} else {
			out.Pages = append(out.Pages, p)
		}
	}
	if !there {
		last.Num = num
		for i := num * s.Size; i < len(b) && i < (num+1)*s.Size; i++ {
			last.Data = append(last.Data, b[i])
		}
		if out.Fetched < 4294967295 {
			out.Fetched++
		}
	}
	out.Pages = append(out.Pages, last)
	if len(out.Pages) == 7 {
		out.Pages = out.Pages[1:]
	}
	for i, x := range last.Data {
		if num*s.Size+i == at {
			return copySource(out), int(x)
		}
	}
	return copySource(out), -1
}

// runByRule is SourceRun by byteByRule.
func runByRule(s impl.Source, b string, from, to int) (impl.Source, string) {
	run := ""
	for at := from; at < to; at++ {
		var x int
		if s, x = byteByRule(s, b, at); x == -1 {
			break
		}
		run += string([]byte{byte(x)})
	}
	return copySource(s), run
}

// wrongSources: each is wrong in one thing.
func wrongSources() map[string]impl.Source {
	return map[string]impl.Source{
		"nothing":              {},
		"Size 0":               pagesOf(0, 0),
		"Size below 0":         pagesOf(-1, 0),
		"the lowest Size":      pagesOf(lowest, 0),
		"Size above MaxText":   pagesOf(60001, 0),
		"the highest Size":     pagesOf(highest, 0),
		"seven pages":          pagesOf(2, 0, manyPages(7)...),
		"many pages":           pagesOf(2, 0, manyPages(100)...),
		"two of one Num":       pagesOf(2, 0, page(1, "a"), page(1, "a")),
		"two alike, apart":     pagesOf(2, 0, page(3, "a"), page(0, "b"), page(3, "c")),
		"six, two alike":       pagesOf(2, 0, append(manyPages(5), page(0, ""))...),
		"Num below 0":          pagesOf(2, 0, page(-1, "a")),
		"the lowest Num":       pagesOf(2, 0, page(0, "a"), page(lowest, "a")),
		"a byte too many":      pagesOf(2, 0, page(0, "abc")),
		"a byte too many, 2nd": pagesOf(1, 0, page(0, "a"), page(1, "bc")),
		"Fetched below 0":      pagesOf(2, -1),
		"the lowest Fetched":   pagesOf(2, lowest),
		"Fetched above MaxNum": pagesOf(2, 4294967296),
		"the highest Fetched":  pagesOf(2, highest),
	}
}

// rightSources: sources at their edges, of the given Size (at least 2).
func rightSources(size int) []impl.Source {
	full := strings.Repeat("F", size)
	return []impl.Source{
		pagesOf(size, 0),
		{Size: size, Pages: []impl.Page{}, Fetched: 1},
		pagesOf(size, 1, impl.Page{Num: 0}),
		pagesOf(size, 1, page(0, "s")),
		pagesOf(size, 3, page(1, full), page(0, "p")),
		pagesOf(size, 4294967294, page(2, full)),
		pagesOf(size, 4294967295, page(0, full), page(highest, "q")),
		pagesOf(size, 6, manyPages(6)...),
		pagesOf(size, 9, page(9, full), page(8, ""), page(1, "x"), page(7, full), page(0, full), page(6, "y")),
	}
}

func TestMaxPages(t *testing.T) {
	if impl.MaxPages != 6 {
		t.Error("MaxPages", impl.MaxPages)
	}
}

// P9: each bound of a source, from both sides.
func TestSourceOk(t *testing.T) {
	for name, s := range wrongSources() {
		if impl.SourceOk(s) {
			t.Errorf("a source passes: %s", name)
		}
	}
	great := strings.Repeat("g", 60000)
	right := append(rightSources(2),
		pagesOf(1, 0), pagesOf(60000, 0), pagesOf(60000, 0, page(0, great), page(1, great)),
		pagesOf(1, 0, page(0, ""), page(1, "a")), pagesOf(2, 0, page(0, "a"), page(2, "a")))
	for i, s := range right {
		if !impl.SourceOk(s) {
			t.Errorf("right source %d doesn't pass", i)
		}
	}
	if impl.SourceOk(pagesOf(60000, 0, page(0, great+"g"))) {
		t.Error("a page of MaxText and one more bytes passes")
	}
}

func TestSourceNew(t *testing.T) {
	for _, c := range []struct {
		size int
		ok   bool
	}{
		{lowest, false}, {-1, false}, {0, false}, {1, true}, {2, true}, {59999, true}, {60000, true},
		{60001, false}, {4294967297, false}, {highest, false},
	} {
		s, ok := impl.SourceNew(c.size)
		want := impl.Source{}
		if c.ok {
			want.Size = c.size
		}
		if ok != c.ok || !sameSource(s, want) || impl.SourceOk(s) != c.ok {
			t.Errorf("SourceNew(%d) = %v, %v", c.size, s, ok)
		}
	}
}

// P9: the edges by hand, so that a slip in byteByRule would show.
func TestSourceByteEdges(t *testing.T) {
	const b = "abcde"
	six := []impl.Page{page(9, "i"), page(8, "h"), page(1, "XY"), page(7, "g"), page(6, ""), page(5, "")}
	for _, c := range []struct {
		name string
		s    impl.Source
		b    string
		at   int
		want impl.Source
		x    int
	}{
		{"the first byte", pagesOf(2, 0), b, 0, pagesOf(2, 1, page(0, "ab")), 'a'},
		{"within a page", pagesOf(2, 0), b, 3, pagesOf(2, 1, page(1, "cd")), 'd'},
		{"the last byte", pagesOf(2, 0), b, 4, pagesOf(2, 1, page(2, "e")), 'e'},
		{"behind it, within a page", pagesOf(2, 0), b, 5, pagesOf(2, 1, page(2, "e")), -1},
		{"behind it, a page on", pagesOf(2, 0), b, 6, pagesOf(2, 1, page(3, "")), -1},
		{"behind it, at a page's end", pagesOf(5, 0), b, 5, pagesOf(5, 1, page(1, "")), -1},
		{"pages of one byte", pagesOf(1, 7), b, 2, pagesOf(1, 8, page(2, "c")), 'c'},
		{"one great page", pagesOf(60000, 0), b, 4, pagesOf(60000, 1, page(0, "abcde")), 'e'},
		{"MaxText", pagesOf(60000, 0), b, 60000, pagesOf(60000, 1, page(1, "")), -1},
		{"MaxText, pages of one byte", pagesOf(1, 0), b, 60000, pagesOf(1, 1, page(60000, "")), -1},
		{"an empty stream", pagesOf(2, 0), "", 0, pagesOf(2, 1, page(0, "")), -1},
		{"bytes 0 and 255", pagesOf(2, 0), "\x00\xff", 1, pagesOf(2, 1, page(0, "\x00\xff")), 255},
		{"a byte 0", pagesOf(2, 0), "\x00\xff", 0, pagesOf(2, 1, page(0, "\x00\xff")), 0},
		{"a page that differs from b", pagesOf(2, 3, page(1, "XY")), b, 3, pagesOf(2, 3, page(1, "XY")), 'Y'},
		{"a page that b hasn't", pagesOf(2, 3, page(4, "XY")), b, 9, pagesOf(2, 3, page(4, "XY")), 'Y'},
		{"a shorter page", pagesOf(2, 3, page(1, "X")), b, 3, pagesOf(2, 3, page(1, "X")), -1},
		{"a page with no byte", pagesOf(2, 3, page(1, "")), b, 2, pagesOf(2, 3, page(1, "")), -1},
		{"used becomes last", pagesOf(2, 3, page(0, "ab"), page(1, "cd"), page(2, "e")), b, 1,
			pagesOf(2, 3, page(1, "cd"), page(2, "e"), page(0, "ab")), 'b'},
		{"used within becomes last", pagesOf(2, 3, page(0, "ab"), page(1, "cd"), page(2, "e")), b, 2,
			pagesOf(2, 3, page(0, "ab"), page(2, "e"), page(1, "cd")), 'c'},
		{"a shorter one becomes last", pagesOf(2, 3, page(1, "c"), page(2, "e")), b, 3,
			pagesOf(2, 3, page(2, "e"), page(1, "c")), -1},
		{"the first one goes", pagesOf(2, 9, six...), b, 1,
			pagesOf(2, 10, append(slices.Clone(six[1:]), page(0, "ab"))...), 'b'},
		{"the first one goes for an empty one", pagesOf(2, 9, six...), b, 20,
			pagesOf(2, 10, append(slices.Clone(six[1:]), page(10, ""))...), -1},
		{"none goes of six for one that is there", pagesOf(2, 9, six...), b, 2,
			pagesOf(2, 9, six[0], six[1], six[3], six[4], six[5], six[2]), 'X'},
		{"the sixth comes, none goes", pagesOf(2, 5, six[:5]...), b, 4,
			pagesOf(2, 6, append(slices.Clone(six[:5]), page(2, "e"))...), 'e'},
		{"Fetched comes to MaxNum", pagesOf(2, 4294967294), b, 0, pagesOf(2, 4294967295, page(0, "ab")), 'a'},
		{"Fetched stays at MaxNum", pagesOf(2, 4294967295), b, 0, pagesOf(2, 4294967295, page(0, "ab")), 'a'},
	} {
		s, x := impl.SourceByte(c.s, []byte(c.b), c.at)
		if x != c.x || !sameSource(s, c.want) {
			t.Errorf("%s: %v, %d, not %v, %d", c.name, s, x, c.want, c.x)
		}
	}
	if s, x := impl.SourceByte(pagesOf(2, 0), nil, 0); x != -1 || !sameSource(s, pagesOf(2, 1, page(0, ""))) {
		t.Errorf("no stream: %v, %d", s, x)
	}
}

// P9: a stream may be longer than MaxText; what is behind that is fetched with its page, but not asked for.
func TestSourceOfALongStream(t *testing.T) {
	b := bytes.Repeat([]byte("0123456789"), 13000)
	s, x := impl.SourceByte(pagesOf(59999, 0), b, 60000)
	if x != '0' || !sameSource(s, pagesOf(59999, 1, impl.Page{Num: 1, Data: b[59999 : 2*59999]})) {
		t.Errorf("at MaxText: %d, %d pages, fetched %d", x, len(s.Pages), s.Fetched)
	}
	s, run := impl.SourceRun(pagesOf(59999, 0), b, 59998, 60000)
	if string(run) != "89" || s.Fetched != 2 || len(s.Pages) != 2 {
		t.Errorf("up to MaxText: %q, %d pages, fetched %d", run, len(s.Pages), s.Fetched)
	}
}

// P9: what isn't right, or isn't in a text, gives nothing.
func TestSourceWrong(t *testing.T) {
	b := []byte("abcde")
	nothing := impl.Source{}
	for name, s := range wrongSources() {
		for _, at := range []int{lowest, -1, 0, 1, 60000, highest} {
			if o, x := impl.SourceByte(s, b, at); x != -1 || !sameSource(o, nothing) {
				t.Errorf("%s: SourceByte at %d = %v, %d", name, at, o, x)
			}
		}
		for _, c := range [][2]int{{0, 3}, {0, 0}, {3, 0}, {-1, 3}, {0, 60001}} {
			if o, run := impl.SourceRun(s, b, c[0], c[1]); len(run) != 0 || !sameSource(o, nothing) {
				t.Errorf("%s: SourceRun of %v = %v, %q", name, c, o, run)
			}
		}
	}
	right := pagesOf(2, 1, page(0, "ab"))
	for _, at := range []int{lowest, lowest + 1, -2, -1, 60001, 60002, highest} {
		if o, x := impl.SourceByte(right, b, at); x != -1 || !sameSource(o, nothing) {
			t.Errorf("SourceByte at %d = %v, %d", at, o, x)
		}
	}
	for _, c := range [][2]int{
		{-1, 3}, {-1, -1}, {-1, 0}, {-3, -5}, {lowest, highest}, {lowest, lowest}, {-1, 60001},
		{0, 60001}, {60001, 60001}, {60002, 60001}, {highest, highest}, {4, highest},
	} {
		if o, run := impl.SourceRun(right, b, c[0], c[1]); len(run) != 0 || !sameSource(o, nothing) {
			t.Errorf("SourceRun of %v = %v, %q", c, o, run)
		}
	}
}

func TestSourceRunEdges(t *testing.T) {
	const b = "abcde"
	start := pagesOf(2, 4, page(1, "XY"), page(7, "z"))
	for _, c := range []struct {
		name     string
		s        impl.Source
		b        string
		from, to int
		want     impl.Source
		run      string
	}{
		{"no place", start, b, 2, 2, start, ""},
		{"from above to", start, b, 3, 2, start, ""},
		{"from far above to", start, b, highest, 60000, start, ""},
		{"from above to below 0", start, b, 0, lowest, start, ""},
		{"from and to MaxText", start, b, 60000, 60000, start, ""},
		{"from above MaxText", start, b, 60001, 60000, start, ""},
		{"one place", start, b, 4, 5, pagesOf(2, 5, page(1, "XY"), page(7, "z"), page(2, "e")), "e"},
		{"over a page that is there", start, b, 1, 5, pagesOf(2, 6, page(7, "z"), page(0, "ab"), page(1, "XY"), page(2, "e")), "bXYe"},
		{"the whole of it", pagesOf(2, 0), b, 0, 5, pagesOf(2, 3, page(0, "ab"), page(1, "cd"), page(2, "e")), "abcde"},
		{"over the end within a page", pagesOf(2, 0), b, 3, 60000, pagesOf(2, 2, page(1, "cd"), page(2, "e")), "de"},
		{"over the end at a page's end", pagesOf(5, 0), b, 3, 60000, pagesOf(5, 2, page(0, "abcde"), page(1, "")), "de"},
		{"behind the end", pagesOf(2, 0), b, 9, 60000, pagesOf(2, 1, page(4, "")), ""},
		{"up to MaxText", pagesOf(2, 0), b, 59999, 60000, pagesOf(2, 1, page(29999, "")), ""},
		{"an empty stream", pagesOf(2, 0), "", 0, 60000, pagesOf(2, 1, page(0, "")), ""},
		{"an empty stream, no place", pagesOf(2, 0), "", 0, 0, pagesOf(2, 0), ""},
		{"a shorter page stops it", pagesOf(2, 1, page(1, "X")), b, 1, 5, pagesOf(2, 2, page(0, "ab"), page(1, "X")), "bX"},
		{"bytes 0 and 255", pagesOf(2, 0), "\x00\xff\x00", 0, 3, pagesOf(2, 2, page(0, "\x00\xff"), page(1, "\x00")), "\x00\xff\x00"},
		{"the first ones go", pagesOf(1, 0), "abcdefgh", 0, 8,
			pagesOf(1, 8, page(2, "c"), page(3, "d"), page(4, "e"), page(5, "f"), page(6, "g"), page(7, "h")), "abcdefgh"},
	} {
		s, run := impl.SourceRun(c.s, []byte(c.b), c.from, c.to)
		if string(run) != c.run || !sameSource(s, c.want) {
			t.Errorf("%s: %v, %q, not %v, %q", c.name, s, run, c.want, c.run)
		}
	}
	if s, run := impl.SourceRun(start, nil, 0, 9); len(run) != 0 || !sameSource(s, pagesOf(2, 5, page(1, "XY"), page(7, "z"), page(0, ""))) {
		t.Errorf("no stream: %v, %q", s, run)
	}
}

// P9: every place and every run over streams and sources of many kinds, by the document's words.
func TestSourceByRule(t *testing.T) {
	const letters = "abcdefghijklmnopqrst"
	for size := 2; size <= 5; size++ {
		for n := 0; n <= len(letters); n++ {
			b := letters[:n]
			for _, s := range rightSources(size) {
				for at := 0; at <= n+2*size; at++ {
					got, x := impl.SourceByte(s, []byte(b), at)
					if want, y := byteByRule(s, b, at); x != y || !sameSource(got, want) || !impl.SourceOk(got) {
						t.Fatalf("SourceByte(%v, %q, %d) = %v, %d, not %v, %d", s, b, at, got, x, want, y)
					}
					for to := at; to <= n+2*size; to += 3 {
						got, run := impl.SourceRun(s, []byte(b), at, to)
						if want, y := runByRule(s, b, at, to); string(run) != y || !sameSource(got, want) || !impl.SourceOk(got) {
							t.Fatalf("SourceRun(%v, %q, %d, %d) = %v, %q, not %v, %q", s, b, at, to, got, run, want, y)
						}
					}
				}
			}
		}
	}
}

// P6, P9: walks over a stream by leaps keep to the rule, and the source stays right.
func TestSourceWalks(t *testing.T) {
	const b = "the quick brown fox jumps over the lazy dog"
	for size := 1; size <= 12; size++ {
		for leap := 1; leap <= 50; leap++ {
			s, _ := impl.SourceNew(size)
			want := s
			for i, at := 0, 0; i < 120; i, at = i+1, (at*3+leap)%50 {
				var x, y int
				s, x = impl.SourceByte(s, []byte(b), at)
				want, y = byteByRule(want, b, at)
				if x != y || !sameSource(s, want) || !impl.SourceOk(s) {
					t.Fatalf("size %d, leap %d, at %d: %v, %d, not %v, %d", size, leap, at, s, x, want, y)
				}
				if at < len(b) && x != int(b[at]) {
					t.Fatalf("size %d, leap %d: at %d there is %d", size, leap, at, x)
				}
			}
		}
	}
}

// P6: a source gives the bytes of the stream, and fetches each page once when it is read through, by bytes as by runs.
func TestSourceReadThrough(t *testing.T) {
	for size := 1; size <= 40; size++ {
		for n := 0; n <= 60; n++ {
			b := make([]byte, n)
			for i := range b {
				b[i] = byte(i*37 + size)
			}
			pages := (n + size - 1) / size
			s, _ := impl.SourceNew(size)
			byRun, run := impl.SourceRun(s, b, 0, n)
			if !bytes.Equal(run, b) || byRun.Fetched != pages || len(byRun.Pages) != min(pages, 6) {
				t.Fatalf("size %d, %d bytes by a run: %v, %v", size, n, byRun, run)
			}
			halves, first := impl.SourceRun(s, b, 0, n/2)
			halves, second := impl.SourceRun(halves, b, n/2, n)
			if !bytes.Equal(append(first, second...), b) || !sameSource(halves, byRun) {
				t.Fatalf("size %d, %d bytes by two runs: %v, %v, %v", size, n, halves, first, second)
			}
			for at := range b {
				var x int
				if s, x = impl.SourceByte(s, b, at); x != int(b[at]) {
					t.Fatalf("size %d, %d bytes: at %d there is %d", size, n, at, x)
				}
			}
			if !sameSource(s, byRun) {
				t.Fatalf("size %d, %d bytes by bytes: %v, not %v", size, n, s, byRun)
			}
			over, run := impl.SourceRun(s, b, 0, impl.MaxText)
			if !bytes.Equal(run, b) || !impl.SourceOk(over) {
				t.Fatalf("size %d, %d bytes, over the end: %v, %v", size, n, over, run)
			}
		}
	}
}

// P6: the greatest stream comes through whole, whatever the size of a page, and in time.
func TestSourceReadThroughGreat(t *testing.T) {
	b := make([]byte, impl.MaxText)
	for i := range b {
		b[i] = byte(i * 7 >> 3)
	}
	for _, size := range []int{1, 2, 7, 4096, 10000, 59999, 60000} {
		s, _ := impl.SourceNew(size)
		s, run := impl.SourceRun(s, b, 0, impl.MaxText)
		pages := (len(b) + size - 1) / size
		if !bytes.Equal(run, b) || s.Fetched != pages || len(s.Pages) != min(pages, 6) {
			t.Errorf("size %d: %d bytes, %d pages fetched, %d there", size, len(run), s.Fetched, len(s.Pages))
		}
	}
}

// spoil writes over everything that can be reached from a source and a list, also behind the ends of lists.
func spoil(s impl.Source, l []byte) {
	for i := range s.Pages {
		data := s.Pages[i].Data[:cap(s.Pages[i].Data)]
		for j := range data {
			data[j] = '#'
		}
	}
	pages := s.Pages[:cap(s.Pages)]
	for i := range pages {
		pages[i] = page(77, "spoilt")
	}
	l = l[:cap(l)]
	for i := range l {
		l[i] = '#'
	}
}

// P9: no argument is changed, and no answer shares memory with an argument.
func TestSourceSharesNothing(t *testing.T) {
	const letters = "abcdefghijklmnopqrst"
	for i := range rightSources(3) {
		for at := 0; at < 24; at++ {
			s, b := rightSources(3)[i], []byte(letters)
			before := copySource(s)
			byByte, x := impl.SourceByte(s, b, at)
			byRun, run := impl.SourceRun(s, b, at, at+5)
			none, _ := impl.SourceRun(s, b, 1, 0)
			if !sameSource(s, before) || string(b) != letters {
				t.Fatalf("source %d at %d: the arguments became %v, %q", i, at, s, b)
			}
			spoil(s, b)
			if want, y := byteByRule(before, letters, at); x != y || !sameSource(byByte, want) {
				t.Errorf("source %d: SourceByte at %d shares with its arguments: %v", i, at, byByte)
			}
			if want, y := runByRule(before, letters, at, at+5); string(run) != y || !sameSource(byRun, want) {
				t.Errorf("source %d: SourceRun at %d shares with its arguments: %v, %q", i, at, byRun, run)
			}
			if !sameSource(none, before) {
				t.Errorf("source %d: SourceRun of no place shares with its arguments: %v", i, none)
			}
		}
	}
}

// P9: no two lists of one answer share memory, not even behind their ends.
func TestSourceListsApart(t *testing.T) {
	b := []byte("abcdefghijklmnopqrst")
	made := func() (impl.Source, []byte) { return impl.SourceRun(pagesOf(3, 0), b, 0, 20) }
	fresh, freshRun := made()
	for i := range fresh.Pages {
		s, run := made()
		data := s.Pages[i].Data[:cap(s.Pages[i].Data)]
		for j := range data {
			data[j] = '#'
		}
		for j := range fresh.Pages {
			if j != i && !bytes.Equal(s.Pages[j].Data, fresh.Pages[j].Data) {
				t.Errorf("pages %d and %d share memory", i, j)
			}
		}
		if !bytes.Equal(run, freshRun) {
			t.Errorf("page %d and the run share memory", i)
		}
	}
	s, run := made()
	for j := range run {
		run[j] = '#'
	}
	if !sameSource(s, fresh) {
		t.Error("the run and a page share memory")
	}
}

// P9: nothing is kept from call to call; the source ahead of a call is as good behind it.
func TestSourceKeepsNothing(t *testing.T) {
	b := []byte("abcdefghij")
	s, _ := impl.SourceRun(pagesOf(2, 0), b, 0, 4)
	one, x := impl.SourceByte(s, b, 8)
	_, _ = impl.SourceRun(one, b, 0, 10)
	two, y := impl.SourceByte(s, b, 8)
	if x != 'i' || y != x || !sameSource(one, two) {
		t.Errorf("the same call twice: %v, %d and %v, %d", one, x, two, y)
	}
}
