package token

import "strings"

type sign struct {
	written string
	read    byte
}

var signs = [...]sign{
	{"&amp;", '&'},
	{"&lt;", '<'},
	{"&gt;", '>'},
	{"&quot;", '"'},
}

// readSigns reads from the left, once: what a sign stands for begins no other.
func readSigns(s string) string {
	var b strings.Builder
	for len(s) > 0 {
		c, width := firstRead(s)
		b.WriteByte(c)
		s = s[width:]
	}
	return b.String()
}

// firstRead answers what stands first in s, which isn't empty, and how many
// bytes it takes.
func firstRead(s string) (byte, int) {
	for _, known := range signs {
		if strings.HasPrefix(s, known.written) {
			return known.read, len(known.written)
		}
	}
	return s[0], 1
}

// WriteSigns writes as signs those bytes of s that are among these, all of
// which have one.
func WriteSigns(s, these string) string {
	var b strings.Builder
	for i := range len(s) {
		if strings.IndexByte(these, s[i]) >= 0 {
			b.WriteString(signOf(s[i]))
		} else {
			b.WriteByte(s[i])
		}
	}
	return b.String()
}

func signOf(c byte) string {
	for _, known := range signs {
		if known.read == c {
			return known.written
		}
	}
	return string([]byte{c})
}
