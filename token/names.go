package token

// IsName tells if s is a name of an element, in small letters.
func IsName(s string) bool {
	if s == "" || !isLetter(s[0]) || small(s) != s {
		return false
	}
	return !holds(s, func(c byte) bool { return !isNameByte(c) })
}

// IsAttrName tells if s, written, is read again as the name of an attribute
// whole: only as its first byte a = doesn't end it.
func IsAttrName(s string) bool {
	if s == "" || endsName(s[0]) || small(s) != s {
		return false
	}
	return !holds(s[1:], endsAttrName)
}

func holds(s string, such func(byte) bool) bool {
	for i := range len(s) {
		if such(s[i]) {
			return true
		}
	}
	return false
}
