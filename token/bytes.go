package token

func isLetter(c byte) bool {
	return 'a' <= c && c <= 'z' || 'A' <= c && c <= 'Z'
}

func isNameByte(c byte) bool {
	return isLetter(c) || '0' <= c && c <= '9'
}

func isBlank(c byte) bool {
	return c == '\t' || c == '\n' || c == '\r' || c == ' '
}

func isBlankOrSlash(c byte) bool {
	return isBlank(c) || c == '/'
}

func endsValue(c byte) bool {
	return isBlank(c) || c == '>'
}

func endsName(c byte) bool {
	return isBlankOrSlash(c) || c == '>'
}

func endsAttrName(c byte) bool {
	return endsName(c) || c == '='
}

func smallByte(c byte) byte {
	if 'A' <= c && c <= 'Z' {
		return c - 'A' + 'a'
	}
	return c
}

// small goes by bytes, for only A to Z have small letters here: all other
// bytes, also such as are no text at all, stay as they are.
func small(s string) string {
	b := []byte(s)
	for i, c := range b {
		b[i] = smallByte(c)
	}
	return string(b)
}
