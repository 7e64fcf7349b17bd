package token

import "strings"

type sign struct {
	written string
	read    byte
}

var signs = [...]sign{
	{"&amp;", '&'},
	{"&lt;", '<'},
	{"&gt;", '>'},
	{"&quot;", '"'},
}

// readSigns reads from the left, once: what a sign stands for begins no other.
func readSigns(s string) string {
	var b strings.Builder
	for len(s) > 0 {
		c, width := firstRead(s)
		b.WriteByte(c)
		s = s[width:]
	}
	return b.String()
}

// firstRead answers what stands first in s, which isn't empty, and how many
// bytes it takes.
func firstRead(s string) (byte, int) {
	for _, known := range signs {
		if strings.HasPrefix(s, known.written) {
			return known.read, len(known.written)
		}
	}
	return s[0], 1
}
