// Package token reads markup token by token, and tells what is read again as
// it is.
package token

import (
	"strings"

	"scrub/api"
)

// Sort: of a token.
type Sort int

const (
	Text Sort = iota
	Start
	End
)

// comment is a sort that never comes out: nothing comes of a comment.
const comment Sort = -1

const (
	commentOpens  = "<!--"
	commentCloses = "-->"
	endOpens      = "</"
)

// Token: bytes of text that stand side by side, a start, or an end.
type Token struct {
	Sort  Sort
	Name  string     // of a start or an end, in small letters
	Attrs []api.Attr // of a start
	Text  string     // of a text; of the start of a raw element, the element's text
}

// Reader: markup, and how far it has been read.
type Reader struct {
	markup string
	at     int
}

// NewReader answers a reader that stands at the beginning of the markup.
func NewReader(markup string) *Reader {
	return &Reader{markup: markup}
}

// Next answers the next token of which something may come, or false at the
// end of the markup.
func (r *Reader) Next() (Token, bool) {
	for !r.done() {
		t, ok := Token{}, false
		switch r.begins() {
		case comment:
			r.passComment()
		case End:
			t, ok = r.end()
		case Start:
			t, ok = r.start()
		default:
			t, ok = r.text(), true
		}
		if ok {
			return t, true
		}
	}
	return Token{}, false
}

func (r *Reader) done() bool { return r.at >= len(r.markup) }

func (r *Reader) rest() string { return r.markup[r.at:] }

// begins tells the sort of the token that begins here.
func (r *Reader) begins() Sort {
	rest := r.rest()
	switch {
	case rest[0] != '<':
		return Text
	case strings.HasPrefix(rest, commentOpens):
		return comment
	case len(rest) > 1 && isLetter(rest[1]):
		return Start
	case len(rest) > 2 && rest[1] == '/' && isLetter(rest[2]):
		return End
	}
	return Text
}

// pass goes ahead over all bytes that are such, and answers them.
func (r *Reader) pass(such func(byte) bool) string {
	from := r.at
	for !r.done() && such(r.markup[r.at]) {
		r.at++
	}
	return r.markup[from:r.at]
}

// passTo goes ahead to just behind the next mark and answers what stands ahead
// of it; if there is no mark, it goes to the end and answers false.
func (r *Reader) passTo(mark string) (string, bool) {
	passed, behind, found := strings.Cut(r.rest(), mark)
	r.at = len(r.markup) - len(behind)
	return passed, found
}

func (r *Reader) passComment() {
	r.at += len(commentOpens)
	r.passTo(commentCloses)
}

// text takes all bytes of text that stand side by side, for signs are read
// across them, and across nothing else.
func (r *Reader) text() Token {
	from := r.at
	for !r.done() && r.begins() == Text {
		r.at++
	}
	return Token{Sort: Text, Text: readSigns(r.markup[from:r.at])}
}

// end answers false if the markup ends within the end.
func (r *Reader) end() (Token, bool) {
	r.at += len(endOpens)
	name := small(r.pass(isNameByte))
	if _, found := r.passTo(">"); !found {
		return Token{}, false
	}
	return Token{Sort: End, Name: name}, true
}
