package scrub_test

import (
	"math/rand"
	"strings"
	"testing"

	"scrub/api"
	"scrub/scrub"
	"scrub/tree"
)

// checkAgain holds what is read against what is read of it, written. (By the
// package tree, for what is written may be longer than Parse reads.)
func checkAgain(t *testing.T, s string) {
	t.Helper()
	l := tree.Read(s)
	written, e := scrub.Write(l)
	if e != api.OK {
		t.Fatalf("%q is read as %s, which Write refuses: %d", s, told(l), e)
	}
	if got, want := told(tree.Read(written)), told(l); got != want {
		t.Fatalf("%q is written %q\nread as %s\n   then %s", s, written, want, got)
	}
	if len(written) > api.MaxText {
		return
	}
	if again, e := scrub.Parse(written); e != api.OK || told(again) != told(l) {
		t.Fatalf("%q is written %q\nParse of that: %s, %d", s, written, told(again), e)
	}
}

func TestAgain(t *testing.T) {
	for _, s := range []string{
		`<P>a<b>c</p>d`,
		`<p>a<div>b`,
		`<p>a<td>b`,
		`<table>a<tr><td>b</table>`,
		`<ul><li>a<li>b<ul><li>c</ul>d`,
		`<style>a<b></STYLE >c`,
		`<a x=1 X='2' "y">`,
		`<a =x==1 '=2 <=">" &lt;="'"x/y>`,
		`&l<!-- -->t; &amp;lt; &am</b>p;`,
		`a<!-- --><<!-- -->b>`,
		`<script></style></script</script`,
		`<style></</style`,
		`<b><table></b>a`,
		`<table><td><table></tr>a`,
		`<li>` + strings.Repeat("<b>", 10) + `<table><li>a`,
		`<p>` + strings.Repeat("<b>", 10) + `<table><p>a<tr>b<p>c`,
		strings.Repeat("<b>", 10) + `<table>a<td>c<tr>d<i>e`,
		strings.Repeat("<b>", 11) + `<table>a<tr>c<td>d<i>e<style>f</style>g`,
		strings.Repeat("<table>", 300),
		strings.Repeat("<li><ul>", 70) + strings.Repeat(`a & "b" <br>`, 50),
		long,
		"",
	} {
		checkAgain(t, s)
	}
}

func TestAgainAny(t *testing.T) {
	check := func(s string) { checkAgain(t, s) }
	eachAny(check)
	eachCut(check)
}

func TestAgainDrawn(t *testing.T) {
	draw := rand.New(rand.NewSource(1))
	for range 20000 {
		var b strings.Builder
		for range draw.Intn(60) {
			b.WriteString(pieces[draw.Intn(len(pieces))])
		}
		checkAgain(t, b.String())
	}
}

func FuzzAgain(f *testing.F) {
	f.Add(long)
	for _, p := range pieces {
		f.Add(p)
	}
	f.Fuzz(checkAgain)
}
