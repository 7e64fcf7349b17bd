package token

import (
	"reflect"
	"testing"

	"scrub/api"
)

func all(markup string) []Token {
	var list []Token
	r := NewReader(markup)
	for t, ok := r.Next(); ok; t, ok = r.Next() {
		list = append(list, t)
	}
	return list
}

func TestNext(t *testing.T) {
	for markup, want := range map[string][]Token{
		``:               nil,
		`<!-- a -->`:     nil,
		`a&lt;b`:         {{Sort: Text, Text: "a<b"}},
		`a<!-- -->b`:     {{Sort: Text, Text: "a"}, {Sort: Text, Text: "b"}},
		`<A>b</A c>`:     {{Sort: Start, Name: "a"}, {Sort: Text, Text: "b"}, {Sort: End, Name: "a"}},
		`<a B=c D>`:      {{Sort: Start, Name: "a", Attrs: []api.Attr{{Name: "b", Value: "c"}, {Name: "d"}}}},
		`a<b c="d>`:      {{Sort: Text, Text: "a"}},
		`a</b`:           {{Sort: Text, Text: "a"}},
		`<style>&lt;`:    {{Sort: Start, Name: "style", Text: "&lt;"}},
		`<style></style`: {{Sort: Start, Name: "style", Text: "</style"}},
		`<Script>a</b></SCRIPT/>c`: {
			{Sort: Start, Name: "script", Text: "a</b>"},
			{Sort: End, Name: "script"},
			{Sort: Text, Text: "c"},
		},
	} {
		if got := all(markup); !reflect.DeepEqual(got, want) {
			t.Errorf("the tokens of %q\n got %+v\nwant %+v", markup, got, want)
		}
	}
}

func TestNextStaysAtTheEnd(t *testing.T) {
	r := NewReader("a<b")
	r.Next()
	for range 3 {
		if got, ok := r.Next(); ok {
			t.Errorf("at the end of the markup comes %+v", got)
		}
	}
}

func TestNames(t *testing.T) {
	for s, want := range map[string][2]bool{
		"":    {false, false},
		"b":   {true, true},
		"b1":  {true, true},
		"B":   {false, false},
		"bB":  {false, false},
		"1b":  {false, true},
		"b-c": {false, true},
		"é":   {false, true},
		"=":   {false, true},
		"=b":  {false, true},
		"b=":  {false, false},
		"==":  {false, false},
		"b c": {false, false},
		"b\n": {false, false},
		"/":   {false, false},
		"b/":  {false, false},
		">":   {false, false},
		`"`:   {false, true},
	} {
		if got := [2]bool{IsName(s), IsAttrName(s)}; got != want {
			t.Errorf("IsName and IsAttrName of %q: %v, want %v", s, got, want)
		}
	}
}

func TestHoldsEnd(t *testing.T) {
	for s, want := range map[string]bool{
		"":               false,
		"</style":        false,
		"</styles>":      false,
		"</script>":      false,
		"</style>":       true,
		"a</STYLE\tb":    true,
		"</</style/":     true,
		"</style</style": false,
	} {
		if got := HoldsEnd(s, "style"); got != want {
			t.Errorf("HoldsEnd(%q) = %v, want %v", s, got, want)
		}
	}
}

func TestWriteSigns(t *testing.T) {
	if got, want := WriteSigns("a&b<c>d\"'\xff", "&<"), "a&amp;b&lt;c>d\"'\xff"; got != want {
		t.Errorf("got %q, want %q", got, want)
	}
	for _, s := range []string{`&<>"`, `&amp;`, `&lt`, `"&quot;"`} {
		if got := readSigns(WriteSigns(s, `&<>"`)); got != s {
			t.Errorf("%q is written and read again as %q", s, got)
		}
	}
}
