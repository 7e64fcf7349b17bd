package token

import (
	"strings"

	"scrub/api"
	"scrub/kind"
)

// start answers false if the markup ends within the start.
func (r *Reader) start() (Token, bool) {
	r.at++
	t := Token{Sort: Start, Name: small(r.pass(isNameByte))}
	for {
		r.pass(isBlankOrSlash)
		if r.done() {
			goto cutOff
		}
		if r.markup[r.at] == '>' {
			break
		}
		attr := api.Attr{Name: r.attrName()}
		r.pass(isBlank)
		if !r.done() && r.markup[r.at] == '=' {
			r.at++
			value, whole := r.value()
			if !whole {
				goto cutOff
			}
			attr.Value = value
		}
		t.Attrs = withAttr(t.Attrs, attr)
	}
	r.at++
	if kind.Of(t.Name) == kind.Raw {
		t.Text = r.rawText(t.Name)
	}
	return t, true

cutOff:
	r.at = len(r.markup)
	return Token{}, false
}

// attrName takes the first byte whatever it is: so a name may begin with a =.
func (r *Reader) attrName() string {
	from := r.at
	r.at++
	r.pass(func(c byte) bool { return !endsAttrName(c) })
	return small(r.markup[from:r.at])
}

// value answers false if a quote is opened and not closed.
func (r *Reader) value() (string, bool) {
	r.pass(isBlank)
	written, whole := "", true
	if rest := r.rest(); strings.HasPrefix(rest, `"`) || strings.HasPrefix(rest, `'`) {
		r.at++
		written, whole = r.passTo(rest[:1])
	} else {
		written = r.pass(func(c byte) bool { return !endsValue(c) })
	}
	return readSigns(written), whole
}

// withAttr leaves the list as it is if it has an attribute of this name: the
// first counts.
func withAttr(list []api.Attr, attr api.Attr) []api.Attr {
	for _, a := range list {
		if a.Name == attr.Name {
			return list
		}
	}
	return append(list, attr)
}

// rawText stops ahead of the end of the raw element, so that it is read as any
// other end.
func (r *Reader) rawText(name string) string {
	from := r.at
	for !r.done() && !endsRaw(r.rest(), name) {
		r.at++
	}
	return strings.Clone(r.markup[from:r.at])
}

// endsRaw tells if s begins with what ends the raw element of this name.
func endsRaw(s, name string) bool {
	behind, found := strings.CutPrefix(s, endOpens)
	if !found || len(behind) <= len(name) {
		return false
	}
	return small(behind[:len(name)]) == name && endsName(behind[len(name)])
}

// HoldsEnd tells if the text, as that of the raw element of this name, would
// end ahead of its own end.
func HoldsEnd(text, name string) bool {
	for at := range len(text) {
		if endsRaw(text[at:], name) {
			return true
		}
	}
	return false
}
