package tests

import (
	"math"
	"strings"
	"testing"

	"loop.example/g00666/impl"
)

const (
	lowest  = math.MinInt
	highest = math.MaxInt
)

// bytesByRule writes a rune by the document's arithmetic, apart from what Go knows of UTF-8.
func bytesByRule(r int) string {
	low := byte(128 + r%64)
	switch {
	case r < 0 || r > 1114111 || r >= 55296 && r <= 57343:
		return ""
	case r < 128:
		return string([]byte{byte(r)})
	case r < 2048:
		return string([]byte{byte(192 + r/64), low})
	case r < 65536:
		return string([]byte{byte(224 + r/4096), byte(128 + r/64%64), low})
	}
	return string([]byte{byte(240 + r/262144), byte(128 + r/4096%64), byte(128 + r/64%64), low})
}

// runesByRule is bytesByRule the other way round.
func runesByRule() map[string]int {
	m := make(map[string]int, 1114112)
	for r := range 1114112 {
		if b := bytesByRule(r); b != "" {
			m[b] = r
		}
	}
	return m
}

// runeByRule looks for the bytes of a rune at the beginning of s.
func runeByRule(m map[string]int, s string) (int, int) {
	for n := 1; n <= min(4, len(s)); n++ {
		if r, ok := m[s[:n]]; ok {
			return r, n
		}
	}
	return 0, 0
}

func allowedByRule(r int) bool {
	if r == 65279 || r == 65534 || r == 65535 {
		return false
	}
	return r == 9 || r == 10 || r >= 32 && r <= 126 || r > 159
}

func cleanByRule(m map[string]int, s string) int {
	p := 0
	for p < len(s) {
		r, n := runeByRule(m, s[p:])
		if n == 0 || !allowedByRule(r) {
			return p
		}
		p += n
	}
	return p
}

func normalByRule(m map[string]int, b []byte) (string, int) {
	if len(b) > 60000 {
		return "", 1
	}
	if len(b) >= 3 && b[0] == 239 && b[1] == 187 && b[2] == 191 {
		b = b[3:]
	}
	var out []byte
	for i, c := range b {
		switch {
		case c != 13:
			out = append(out, c)
		case i+1 == len(b) || b[i+1] != 10:
			out = append(out, 10)
		}
	}
	if cleanByRule(m, string(out)) < len(out) {
		return "", 2
	}
	return string(out), 0
}

// eachText calls f with every text of at most most of the given parts, one behind the other.
func eachText(parts []string, most int, f func(string)) {
	var grow func(s string, left int)
	grow = func(s string, left int) {
		f(s)
		if left == 0 {
			return
		}
		for _, x := range parts {
			grow(s+x, left-1)
		}
	}
	grow("", most)
}

// edgeBytes: the bytes at which the forms of UTF-8 begin and end, and some within.
func edgeBytes() []string {
	var l []string
	for _, b := range []byte{0, 65, 127, 128, 143, 144, 159, 160, 187, 190, 191, 192, 193, 194, 223, 224, 225, 237, 238, 239, 240, 241, 244, 245, 248, 255} {
		l = append(l, string([]byte{b}))
	}
	return l
}

func TestMaxima(t *testing.T) {
	if impl.MaxText != 60000 || impl.MaxNum != 4294967295 {
		t.Error("MaxText and MaxNum", impl.MaxText, impl.MaxNum)
	}
}

// P5, P9: every rune has the bytes that the document's arithmetic gives, and is read from them as it was.
func TestEveryRuneThereAndBack(t *testing.T) {
	for r := -10; r < 1114112+10; r++ {
		want := bytesByRule(r)
		got := impl.RuneBytes(r)
		if got != want {
			t.Fatalf("RuneBytes(%d) = %q, not %q", r, got, want)
		}
		if want == "" {
			continue
		}
		if x, n := impl.RuneAt(got, 0); x != r || n != len(want) {
			t.Fatalf("RuneAt(%q, 0) = %d, %d, not %d, %d", got, x, n, r, len(want))
		}
		if x, n := impl.RuneAt("a"+got+"\x80", 1); x != r || n != len(want) {
			t.Fatalf("RuneAt of %q within a text = %d, %d", got, x, n)
		}
	}
}

// P9: the edges by hand, so that a slip in the arithmetic above would show.
func TestRuneBytes(t *testing.T) {
	for _, c := range []struct {
		r    int
		want string
	}{
		{0, "\x00"}, {9, "\t"}, {65, "A"}, {126, "~"}, {127, "\x7f"},
		{128, "\xc2\x80"}, {233, "\xc3\xa9"}, {2047, "\xdf\xbf"},
		{2048, "\xe0\xa0\x80"}, {8364, "\xe2\x82\xac"}, {55295, "\xed\x9f\xbf"},
		{55296, ""}, {56000, ""}, {57343, ""}, {57344, "\xee\x80\x80"},
		{65279, "\xef\xbb\xbf"}, {65533, "\xef\xbf\xbd"}, {65534, "\xef\xbf\xbe"}, {65535, "\xef\xbf\xbf"},
		{65536, "\xf0\x90\x80\x80"}, {128512, "\xf0\x9f\x98\x80"}, {1114111, "\xf4\x8f\xbf\xbf"},
		{1114112, ""}, {-1, ""}, {lowest, ""}, {highest, ""},
		{4294967296, ""}, {4294967296 + 65, ""}, {-4294967296 + 65, ""}, {lowest + 65, ""},
	} {
		if got := impl.RuneBytes(c.r); got != c.want {
			t.Errorf("RuneBytes(%d) = %q, not %q", c.r, got, c.want)
		}
	}
}

// P9: only the shortest form of a rune is one, and nothing else that begins like one.
func TestRuneAtBrokenBytes(t *testing.T) {
	m := runesByRule()
	eachText(edgeBytes(), 4, func(s string) {
		wantR, wantN := runeByRule(m, s)
		if r, n := impl.RuneAt(s, 0); r != wantR || n != wantN {
			t.Errorf("RuneAt(%q, 0) = %d, %d, not %d, %d", s, r, n, wantR, wantN)
		}
	})
	for _, s := range []string{
		"", "\xc0\x80", "\xc1\xbf", "\xe0\x80\x80", "\xe0\x9f\xbf", "\xf0\x80\x80\x80", "\xf0\x8f\xbf\xbf",
		"\xed\xa0\x80", "\xed\xbf\xbf", "\xf4\x90\x80\x80", "\xf8\x88\x80\x80\x80",
		"\xc3", "\xe2\x82", "\xf0\x9f\x98", "\xc3a", "\xe2\x82a", "\xf0\x9f\x98a", "\x80", "\xbf", "\xff",
	} {
		if r, n := impl.RuneAt(s, 0); r != 0 || n != 0 {
			t.Errorf("RuneAt(%q, 0) = %d, %d, not 0, 0", s, r, n)
		}
	}
}

// P9: places outside of the text count as its ends, and a place within a rune is no rune.
func TestRuneAtPlaces(t *testing.T) {
	const s = "aé€😀\x00\ufffd"
	for _, c := range []struct{ p, r, n int }{
		{lowest, 97, 1}, {-1, 97, 1}, {0, 97, 1},
		{1, 233, 2}, {2, 0, 0},
		{3, 8364, 3}, {4, 0, 0}, {5, 0, 0},
		{6, 128512, 4}, {7, 0, 0}, {8, 0, 0}, {9, 0, 0},
		{10, 0, 1}, {11, 65533, 3}, {12, 0, 0},
		{14, 0, 0}, {15, 0, 0}, {highest, 0, 0},
	} {
		if r, n := impl.RuneAt(s, c.p); r != c.r || n != c.n {
			t.Errorf("RuneAt(%q, %d) = %d, %d, not %d, %d", s, c.p, r, n, c.r, c.n)
		}
	}
	for _, p := range []int{lowest, -1, 0, 1, highest} {
		if r, n := impl.RuneAt("", p); r != 0 || n != 0 {
			t.Errorf("RuneAt of nothing at %d = %d, %d", p, r, n)
		}
	}
}

// P5: a text read rune by rune is read as it was written.
func TestTextByRunes(t *testing.T) {
	for _, s := range []string{"", "plain", "tab\tand\nbreak", "é€😀\ufffd\x00", "\u0085\u00a0\u2028\ufeff"} {
		var b strings.Builder
		for p := 0; p < len(s); {
			r, n := impl.RuneAt(s, p)
			if n == 0 {
				t.Fatalf("no rune in %q at %d", s, p)
			}
			b.WriteString(impl.RuneBytes(r))
			p += n
		}
		if b.String() != s {
			t.Errorf("%q was read as %q", s, b.String())
		}
	}
}

// P6, P9: which of all runes may stand, and where the first byte is that may not.
func TestCleanEveryRune(t *testing.T) {
	for r := range 1114112 {
		b := bytesByRule(r)
		if b == "" {
			continue
		}
		s := "é" + b + "z"
		want := 2
		if allowedByRule(r) {
			want = len(s)
		}
		if got := impl.Clean(s); got != want {
			t.Fatalf("Clean(%q) with the rune %d = %d, not %d", s, r, got, want)
		}
	}
}

func TestCleanEdges(t *testing.T) {
	for _, c := range []struct {
		s    string
		want int
	}{
		{"", 0}, {"a", 1}, {"a\té\n", 5},
		{"\x00", 0}, {"\x08", 0}, {"\t", 1}, {"\n", 1}, {"\x0b", 0}, {"\x0c", 0}, {"\r", 0}, {"\x1f", 0}, {" ", 1},
		{"~", 1}, {"\x7f", 0}, {"\u0080", 0}, {"\u0085", 0}, {"\u009f", 0}, {"\u00a0", 2},
		{"\ud7ff", 3}, {"\ue000", 3}, {"\ufefe", 3}, {"\ufeff", 0}, {"\uff00", 3}, {"\ufffd", 3}, {"\ufffe", 0}, {"\uffff", 0},
		{"\U00010000", 4}, {"\U0001fffe", 4}, {"\U0010ffff", 4},
		{"é\u0085", 2}, {"a\ufeff", 1}, {"a\x00\x00", 1}, {"ab\xff", 2},
		{"a\xc3", 1}, {"a\xe2\x82", 1}, {"a\xf0\x9f\x98", 1}, {"a\xe2\x82b", 1}, {"a\x80", 1},
		{"a\xc0\x80", 1}, {"a\xed\xa0\x80", 1}, {"a\xf4\x90\x80\x80", 1}, {"\ufffd\xef\xbf", 3}, {"\xef\xbf\ufffd", 0},
	} {
		if got := impl.Clean(c.s); got != c.want {
			t.Errorf("Clean(%q) = %d, not %d", c.s, got, c.want)
		}
	}
}

func TestCleanBrokenBytes(t *testing.T) {
	m := runesByRule()
	eachText(edgeBytes(), 4, func(s string) {
		if got, want := impl.Clean(s), cleanByRule(m, s); got != want {
			t.Errorf("Clean(%q) = %d, not %d", s, got, want)
		}
	})
}

func TestNormalEdges(t *testing.T) {
	for _, c := range []struct {
		b    string
		want string
		code int
	}{
		{"", "", 0}, {"a: 1\n", "a: 1\n", 0}, {"é€😀", "é€😀", 0},
		{"\r", "\n", 0}, {"\n", "\n", 0}, {"\r\n", "\n", 0}, {"\n\r", "\n\n", 0}, {"\r\r", "\n\n", 0},
		{"\r\r\n", "\n\n", 0}, {"\r\n\r", "\n\n", 0}, {"\r\n\n", "\n\n", 0}, {"a\rb\r\nc\r", "a\nb\nc\n", 0},
		{"\xef\xbb\xbf", "", 0}, {"\xef\xbb\xbfa", "a", 0}, {"\xef\xbb\xbf\r\n", "\n", 0},
		{"\xef\xbb\xbf\xef\xbb\xbf", "", 2}, {"\xef\xbb\xbf\xef\xbb\xbfa", "", 2},
		{"a\xef\xbb\xbf", "", 2}, {"\n\xef\xbb\xbfa", "", 2}, {"\xef\xbb", "", 2}, {"\xef", "", 2}, {"\xef\xbba", "", 2},
		{"a\x00", "", 2}, {"a\x01", "", 2}, {"\xff\xfe", "", 2}, {"a\xc3", "", 2}, {"\xc3\r\xa9", "", 2}, {"\u0085", "", 2},
	} {
		s, code := impl.Normal([]byte(c.b))
		if s != c.want || code != c.code {
			t.Errorf("Normal(%q) = %q, %d, not %q, %d", c.b, s, code, c.want, c.code)
		}
	}
	if s, code := impl.Normal(nil); s != "" || code != 0 {
		t.Errorf("Normal(nil) = %q, %d", s, code)
	}
}

// P9: MaxText counts the bytes that come in, and is asked ahead of what they are.
func TestNormalSize(t *testing.T) {
	full := strings.Repeat("a", impl.MaxText)
	marked := "\xef\xbb\xbf" + full[3:]
	pairs := strings.Repeat("\r\n", impl.MaxText/2)
	for _, c := range []struct {
		name, b, want string
		code          int
	}{
		{"full", full, full, 0},
		{"one more", full + "a", "", 1},
		{"full with the mark", marked, full[3:], 0},
		{"the mark and one too many", marked + "a", "", 1},
		{"full of pairs", pairs, strings.Repeat("\n", impl.MaxText/2), 0},
		{"pairs and one too many", pairs + "\n", "", 1},
		{"full and not clean", full[1:] + "\x00", "", 2},
		{"one more and not clean", full + "\x00", "", 1},
	} {
		if s, code := impl.Normal([]byte(c.b)); s != c.want || code != c.code {
			t.Errorf("Normal of %s: %d bytes and code %d, not %d and %d", c.name, len(s), code, len(c.want), c.code)
		}
	}
}

// P6: what Normal makes is clean, and is itself when made clean again; P9: it is what the document says.
func TestNormalOfManyTexts(t *testing.T) {
	m := runesByRule()
	parts := []string{"a", "\t", "\n", "\r", "\xef\xbb\xbf", "\xef", "\xbb\xbf", "é", "\x00", "\u0085", "\ufffd", "\xff"}
	eachText(parts, 5, func(b string) {
		s, code := impl.Normal([]byte(b))
		if want, wantCode := normalByRule(m, []byte(b)); s != want || code != wantCode {
			t.Fatalf("Normal(%q) = %q, %d, not %q, %d", b, s, code, want, wantCode)
		}
		if impl.Clean(s) != len(s) {
			t.Fatalf("Normal(%q) = %q isn't clean", b, s)
		}
		if again, c := impl.Normal([]byte(s)); again != s || c != 0 {
			t.Fatalf("Normal(%q) made clean again = %q, %d", s, again, c)
		}
	})
}

// P9: the argument is neither changed nor kept.
func TestNormalLeavesItsBytes(t *testing.T) {
	const text = "\xef\xbb\xbfa\r\nb\r"
	b := []byte(text)
	s, _ := impl.Normal(b)
	if string(b) != text {
		t.Errorf("the bytes became %q", b)
	}
	for i := range b {
		b[i] = 'x'
	}
	if s != "a\nb\n" {
		t.Errorf("the text became %q", s)
	}
}

func TestNumText(t *testing.T) {
	for _, c := range []struct {
		n    int
		want string
	}{
		{0, "0"}, {1, "1"}, {9, "9"}, {10, "10"}, {100, "100"}, {120, "120"}, {60000, "60000"},
		{2147483647, "2147483647"}, {2147483648, "2147483648"}, {4294967294, "4294967294"}, {4294967295, "4294967295"},
		{4294967296, ""}, {4294967297, ""}, {-1, ""}, {-120, ""}, {lowest, ""}, {highest, ""},
	} {
		if got := impl.NumText(c.n); got != c.want {
			t.Errorf("NumText(%d) = %q, not %q", c.n, got, c.want)
		}
	}
}

func TestTextNumNone(t *testing.T) {
	for _, s := range []string{
		"", " ", "a", "-", "+", "00", "01", "012", "0000000000", "04294967295", "-0", "-1", "+0", "+1", " 1", "1 ", "1\n", "\t1",
		"1_0", "1.0", "1e3", "0x10", "0o7", "0b1", "1a", "a1", "\x00", "1\x00", "\xff", "١", "１",
		"4294967296", "5000000000", "10000000000", "9223372036854775807", "9223372036854775808", "18446744073709551616",
		"18446744073709551617", strings.Repeat("9", 100), strings.Repeat("0", 100), strings.Repeat("1", 100000), "code 1",
	} {
		if n, ok := impl.TextNum(s); ok || n != 0 {
			t.Errorf("TextNum(%.40q) = %d, %v", s, n, ok)
		}
	}
}

// P9: a number is read from its text as it was, and from no other text.
func TestNumbersThereAndBack(t *testing.T) {
	check := func(n int) {
		s := impl.NumText(n)
		if x, ok := impl.TextNum(s); x != n || !ok {
			t.Errorf("TextNum(%q) = %d, %v, not %d", s, x, ok, n)
		}
		for _, other := range []string{"0" + s, "+" + s, s + " ", s + "."} {
			if x, ok := impl.TextNum(other); ok || x != 0 {
				t.Errorf("TextNum(%q) = %d, %v", other, x, ok)
			}
		}
	}
	for n := range 20000 {
		check(n)
		check(impl.MaxNum - n)
	}
	for n := 1; n <= impl.MaxNum; n = n*3 + 1 {
		check(n)
	}
}
