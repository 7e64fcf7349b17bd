package token

import (
	"reflect"
	"testing"

	"scrub/api"
)

func all(markup string) []Token {
	var list []Token
	r := NewReader(markup)
	for t, ok := r.Next(); ok; t, ok = r.Next() {
		list = append(list, t)
	}
	return list
}

func TestNext(t *testing.T) {
	for markup, want := range map[string][]Token{
		``:               nil,
		`<!-- a -->`:     nil,
		`a&lt;b`:         {{Sort: Text, Text: "a<b"}},
		`a<!-- -->b`:     {{Sort: Text, Text: "a"}, {Sort: Text, Text: "b"}},
		`<A>b</A c>`:     {{Sort: Start, Name: "a"}, {Sort: Text, Text: "b"}, {Sort: End, Name: "a"}},
		`<a B=c D>`:      {{Sort: Start, Name: "a", Attrs: []api.Attr{{Name: "b", Value: "c"}, {Name: "d"}}}},
		`a<b c="d>`:      {{Sort: Text, Text: "a"}},
		`a</b`:           {{Sort: Text, Text: "a"}},
		`<style>&lt;`:    {{Sort: Start, Name: "style", Text: "&lt;"}},
		`<style></style`: {{Sort: Start, Name: "style", Text: "</style"}},
		`<Script>a</b></SCRIPT/>c`: {
			{Sort: Start, Name: "script", Text: "a</b>"},
			{Sort: End, Name: "script"},
			{Sort: Text, Text: "c"},
		},
	} {
		if got := all(markup); !reflect.DeepEqual(got, want) {
			t.Errorf("the tokens of %q\n got %+v\nwant %+v", markup, got, want)
		}
	}
}

func TestNextStaysAtTheEnd(t *testing.T) {
	r := NewReader("a<b")
	r.Next()
	for range 3 {
		if got, ok := r.Next(); ok {
			t.Errorf("at the end of the markup comes %+v", got)
		}
	}
}
