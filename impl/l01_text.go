package impl

import (
	"strconv"
	"strings"
)

const MaxText = 60000
const MaxNum = 4294967295

const (
	lastRune  = 1114111
	firstHalf = 55296 // the halves of pairs, as UTF-16 has them, are no runes
	lastHalf  = 57343
	orderMark = 65279
	broken    = 65533 // what a range over a string tells for bytes that are no rune
)

func RuneBytes(r int) string {
	// Asked of the int: a rune has fewer bits, and a great number could become a right one.
	if r < 0 || r > lastRune || r >= firstHalf && r <= lastHalf {
		return ""
	}
	return string(rune(r))
}

// bring is asked wherever a place comes in: one outside of its text counts as the nearer end.
func bring(s string, p int) int {
	return max(0, min(p, len(s)))
}

// stands tells whether r, which a range over s told at p, was written there:
// the rune that the range tells for broken bytes may also stand in a text.
func stands(s string, p int, r rune) bool {
	return r != broken || strings.HasPrefix(s[p:], RuneBytes(broken))
}

func RuneAt(s string, p int) (int, int) {
	tail := s[bring(s, p):]
	for _, r := range tail {
		if !stands(tail, 0, r) {
			break
		}
		return int(r), len(RuneBytes(int(r)))
	}
	return 0, 0
}

// allowed tells whether a rune may stand in a clean text.
func allowed(r rune) bool {
	switch r {
	case '\t', '\n':
		return true
	case orderMark, 65534, 65535:
		return false
	}
	return r >= 32 && r <= 126 || r > 159
}

func Clean(s string) int {
	for i, r := range s {
		if !allowed(r) || !stands(s, i, r) {
			return i
		}
	}
	return len(s)
}

func Normal(b []byte) (string, int) {
	if len(b) > MaxText {
		return "", 1
	}
	s := strings.TrimPrefix(string(b), RuneBytes(orderMark))
	// Pairs first: what is left of 13 then stands alone.
	s = strings.ReplaceAll(s, "\r\n", "\n")
	s = strings.ReplaceAll(s, "\r", "\n")
	if Clean(s) < len(s) {
		return "", 2
	}
	return s, 0
}

func NumText(n int) string {
	if n < 0 || n > MaxNum {
		return ""
	}
	return strconv.Itoa(n)
}

func TextNum(s string) (int, bool) {
	n, err := strconv.Atoi(s)
	// Atoi takes signs and noughts ahead, which NumText never writes.
	if err != nil || NumText(n) != s {
		return 0, false
	}
	return n, true
}
