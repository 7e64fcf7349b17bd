package scrub_test

import (
	"strings"
	"testing"

	"scrub/api"
	"scrub/scrub"
)

func TestParseExamples(t *testing.T) {
	checkReadings(t, []reading{
		{`<P>a<b>c</p>d`, `p("a" b("c")) "d"`},
		{`<p>a<div>b`, `p("a") div("b")`},
		{`<p>a<td>b`, `p("ab")`},
		{`<table>a<tr><td>b</table>`, `table(tr(td("a")) tr(td("b")))`},
		{`<ul><li>a<li>b<ul><li>c</ul>d`, `ul(li("a") li("b" ul(li("c")) "d"))`},
		{`<style>a<b></STYLE >c`, `style("a<b>") "c"`},
		{`<a x=1 X='2' "y">`, `a[x="1"]["y"=""]()`},
	})
}

func TestParseLength(t *testing.T) {
	for _, n := range []int{0, 1, 599, 600} {
		l, e := scrub.Parse(strings.Repeat("a", n))
		if e != api.OK || n > 0 && (len(l) != 1 || len(l[0].Text) != n) {
			t.Errorf("Parse of %d bytes: %d nodes, %d", n, len(l), e)
		}
	}
	for _, s := range []string{
		strings.Repeat("a", 601),
		strings.Repeat("<b>", 201),
		strings.Repeat("é", 301),
		"<!--" + strings.Repeat("a", 10000) + "-->",
	} {
		if l, e := scrub.Parse(s); e != api.ErrLong || l != nil {
			t.Errorf("Parse of %d bytes: %v, %d, want nil, %d", len(s), l, e, api.ErrLong)
		}
	}
	// Bytes are counted, not letters.
	if _, e := scrub.Parse(strings.Repeat("é", 300)); e != api.OK {
		t.Errorf("Parse of 600 bytes in 300 letters: %d", e)
	}
}

func TestParseText(t *testing.T) {
	checkReadings(t, []reading{
		{``, ``},
		{`a`, `"a"`},
		{" \t\r\n", `" \t\r\n"`},
		{"\x00\xff\x80é", `"\x00\xff\x80é"`},
		{`a < b > c`, `"a < b > c"`},
		{`<1>< a></ a></>`, `"<1>< a></ a></>"`},
		{`<`, `"<"`},
		{`</`, `"</"`},
		{`<!`, `"<!"`},
		{`<!-`, `"<!-"`},
		{`<!a>`, `"<!a>"`},
		{`<<b>`, `"<" b()`},
		{`</</b>`, `"</"`},
		{`a<é>`, `"a<é>"`},
	})
}

func TestParseSigns(t *testing.T) {
	checkReadings(t, []reading{
		{`&amp;&lt;&gt;&quot;`, `"&<>\""`},
		{`&amp;lt;`, `"&lt;"`},
		{`&amp;amp;`, `"&amp;"`},
		{`&&lt;`, `"&<"`},
		{`&`, `"&"`},
		{`&amp &lt &AMP; &Lt; &apos; &#60;`, `"&amp &lt &AMP; &Lt; &apos; &#60;"`},
		{`&lt;b&gt;`, `"<b>"`},
		{`<b>&lt;/b&gt;`, `b("</b>")`},
		// Only bytes side by side in the markup make a sign.
		{`&l<!-- -->t;`, `"&lt;"`},
		{`&am</b>p;`, `"&amp;"`},
		{`&<td>lt;`, `"&lt;"`},
		{`&lt<b>;`, `"&lt" b(";")`},
		// In values, but not in names.
		{`<b x='&lt;&quot;' y=&amp;amp; z="&gt&amp">`, `b[x="<\""][y="&amp;"][z="&gt&amp"]()`},
		{`<b &lt;=1>`, `b[&lt;="1"]()`},
		{`<b x='&quot;'y>`, `b[x="\""][y=""]()`},
	})
}

func TestParseComments(t *testing.T) {
	checkReadings(t, []reading{
		{`a<!-- b -->c`, `"ac"`},
		{`a<!-- <b> </b> " -->c`, `"ac"`},
		{`a<!---->c`, `"ac"`},
		{`a<!-->b-->c`, `"ac"`},
		{`a<!--->b-->c`, `"ac"`},
		{`a<!-- b -- > c`, `"a"`},
		{`a<!--`, `"a"`},
		{`a<!-- --`, `"a"`},
		{`<!-- <!-- -->a-->`, `"a-->"`},
		{`<b><!-- </b>`, `b()`},
		{`<table><!-- -->`, `table()`},
	})
}

func TestParseStarts(t *testing.T) {
	checkReadings(t, []reading{
		{`<b>`, `b()`},
		{`<B1C2>`, `b1c2()`},
		{`<b/>a`, `b("a")`},
		{`<b-c>`, `b[-c=""]()`},
		{`<bé>`, `b[é=""]()`},
		{`<b<c>`, `b[<c=""]()`},
		{"<b x\ty\nz\rw>", `b[x=""][y=""][z=""][w=""]()`},
		{"<b x\v\f=1>", "b[x\v\f=\"1\"]()"},
		{`<b//x/ /y/>`, `b[x=""][y=""]()`},
		{"<b\tx\n=\r1>", `b[x="1"]()`},
		{`<b x = "1" y= '2' z =3>`, `b[x="1"][y="2"][z="3"]()`},
		{`<b x="1'>2" y='3">4'>`, `b[x="1'>2"][y="3\">4"]()`},
		{`<b x='1'y="2"z>`, `b[x="1"][y="2"][z=""]()`},
		{`<b x='' y="">`, `b[x=""][y=""]()`},
		{`<b x=1/y/>a`, `b[x="1/y/"]("a")`},
		{`<b x=a"b'c=d<e>`, `b[x="a\"b'c=d<e"]()`},
		{`<b x=>a`, `b[x=""]("a")`},
		{`<b x= >a`, `b[x=""]("a")`},
		{`<b x/=1>`, `b[x=""][=1=""]()`},
		{`<b =>`, `b[==""]()`},
		{`<b =a=1 ==2>`, `b[=a="1"][=="2"]()`},
		{`<b=1>`, `b[=1=""]()`},
		{`<b x"y'z=1>`, `b[x"y'z="1"]()`},
		{`<b 'x y'>`, `b['x=""][y'=""]()`},
		{`<b X=Y>`, `b[x="Y"]()`},
		{"<b \xc3\x89=1 \xff>", "b[\xc3\x89=\"1\"][\xff=\"\"]()"},
		// Of several with one name the first counts.
		{`<b x=1 X=2 y=3 x>`, `b[x="1"][y="3"]()`},
		{`<b x x=1>`, `b[x=""]()`},
		{`<b x=1><b x=2>`, `b[x="1"](b[x="2"]())`},
	})
}

func TestParseEnds(t *testing.T) {
	checkReadings(t, []reading{
		{`<b>a</b>c`, `b("a") "c"`},
		{`<b>a</B x="1" / >c`, `b("a") "c"`},
		{`<b>a</b x=">">c`, `b("a") "\">c"`},
		{`<b>a</bc>d`, `b("ad")`},
		{`<b>a</b-c>d`, `b("a") "d"`},
		{`<b>a</b<c>d`, `b("a") "d"`},
		{`a</b>c`, `"ac"`},
		{`<b><c></b>a</c>d`, `b(c()) "ad"`},
		{`<b><b>a</b>c</b>d</b>e`, `b(b("a") "c") "de"`},
		{`<b><c>a</d>e`, `b(c("ae"))`},
	})
}

func TestParseCutOff(t *testing.T) {
	checkReadings(t, []reading{
		{`a<b`, `"a"`},
		{`a<b `, `"a"`},
		{`a<b /`, `"a"`},
		{`a<b c`, `"a"`},
		{`a<b c `, `"a"`},
		{`a<b c=`, `"a"`},
		{`a<b c= `, `"a"`},
		{`a<b c=d`, `"a"`},
		{`a<b c='`, `"a"`},
		{`a<b c='d"`, `"a"`},
		{`a<b c='d'`, `"a"`},
		{`a<b c="d>e<i>f`, `"a"`},
		{`<i>a<b c="d></i>e`, `i("a")`},
		{`<table><td`, `table()`},
		{`<p>a<p`, `p("a")`},
		{`a</b`, `"a"`},
		{`<b>a</b x`, `b("a")`},
		{`<b>a</b <i c`, `b("a")`},
		{`a<style`, `"a"`},
		{`<style>a</style`, `style("a</style")`},
		{`<style>a</style `, `style("a")`},
		{`<style>a</style/ b`, `style("a")`},
	})
}

func TestParseVoid(t *testing.T) {
	checkReadings(t, []reading{
		{`<br>a<HR/>b<img src=c>d`, `br() "a" hr() "b" img[src="c"]() "d"`},
		{`<b><br></b>a`, `b(br()) "a"`},
		{`a</br>b</hr></img>c`, `"abc"`},
		{`<br></br>a`, `br() "a"`},
		{`<p><br><hr>a`, `p(br() hr() "a")`},
	})
}

func TestParseRaw(t *testing.T) {
	checkReadings(t, []reading{
		{`<style></style>a`, `style() "a"`},
		{`<style>`, `style()`},
		{`<style>a`, `style("a")`},
		{`<style/>a</style>b`, `style("a") "b"`},
		{`<script x=1>a</b><c>&lt;<!--</script>-->`, `script[x="1"]("a</b><c>&lt;<!--") "-->"`},
		{`<SCRIPT>a</sCrIpT>b`, `script("a") "b"`},
		{`<script>a</style></script>b`, `script("a</style>") "b"`},
		{`<style>a</styles></style1></ style></style>b`, `style("a</styles></style1></ style>") "b"`},
		{"<style>a</style\tx>b", `style("a") "b"`},
		{"<style>a</style\nx>b", `style("a") "b"`},
		{"<style>a</style\rx>b", `style("a") "b"`},
		{"<style>a</style\v></style/x>b", `style("a</style\v>") "b"`},
		{`<style></</style>a`, `style("</") "a"`},
		{`<style><style></style>a</style>b`, `style("<style>") "ab"`},
		{`<p>a<style>b</style>c`, `p("a" style("b") "c")`},
		{`<table><style>a</style>b`, `table(tr(td(style("a") "b")))`},
		{`a</style>b`, `"ab"`},
		{`<styles>a<b>`, `styles("a" b())`},
	})
}

func TestParseBlocks(t *testing.T) {
	checkReadings(t, []reading{
		{`<p>a<p>b`, `p("a") p("b")`},
		{`<p>a<ul>b`, `p("a") ul("b")`},
		{`<p>a<li>b`, `p("a") li("b")`},
		{`<p>a<table>`, `p("a") table()`},
		{`<p><b>a<div>c`, `p(b("a")) div("c")`},
		{`<p>a<b>c<br>d`, `p("a" b("c" br() "d"))`},
		{`<div>a<div>b<p>c`, `div("a" div("b" p("c")))`},
		{`<div><p>a</div>b`, `div(p("a")) "b"`},
		{`<p>a</div>b</p>c`, `p("ab") "c"`},
		{`a</p>b`, `"ab"`},
		// No further than to the innermost td.
		{`<table><td><p>a<p>b`, `table(tr(td(p("a") p("b"))))`},
		{`<table><td><p>a<td><p>b`, `table(tr(td(p("a")) td(p("b"))))`},
	})
}

func TestParseItems(t *testing.T) {
	checkReadings(t, []reading{
		{`<li>a<li>b`, `li("a") li("b")`},
		{`<li>a<div>b<b>c<li>d`, `li("a" div("b" b("c"))) li("d")`},
		{`<li><p>a<li>b`, `li(p("a")) li("b")`},
		{`<li>a<ul><li>b<li>c</ul>d<li>e`, `li("a" ul(li("b") li("c")) "d") li("e")`},
		{`<ul><li><ul>a<li>b</ul></ul>c`, `ul(li(ul("a" li("b")))) "c"`},
		{`<li><ul><b><li>a`, `li(ul(b(li("a"))))`},
		{`<ul><ul><li>a</ul><li>b`, `ul(ul(li("a")) li("b"))`},
		{`<div><li>a</div><li>b`, `div(li("a")) li("b")`},
		{`<li>a</li>b<li>c`, `li("a") "b" li("c")`},
		// No further than to the innermost td.
		{`<li><table><td><li>a<li>b</table>c<li>d`, `li(table(tr(td(li("a") li("b")))) "c") li("d")`},
		{`<li><table><li>a`, `li(table(tr(td(li("a")))))`},
	})
}

func TestParseTables(t *testing.T) {
	checkReadings(t, []reading{
		{`<tr>a<td>b</td></tr>c`, `"abc"`},
		{`<table></table><td>a<tr>b`, `table() "ab"`},
		{`<table><td>a<td>b<tr>c`, `table(tr(td("a") td("b")) tr(td("c")))`},
		{`<table> <tr> <td> a`, `table(tr(td(" ")) tr(td(" ") td(" a")))`},
		{`<table><tr><tr><td>`, `table(tr() tr(td()))`},
		{`<table a><tr b><td c>d`, `table[a=""](tr[b=""](td[c=""]("d")))`},
		{`<table><td c>d`, `table(tr(td[c=""]("d")))`},
		{`<table><b>a<i>c<td>d`, `table(tr(td(b("a" i("c"))) td("d")))`},
		{`<table><b>a<tr>c`, `table(tr(td(b("a"))) tr(td("c")))`},
		{`<table><br><img></table>`, `table(tr(td(br() img())))`},
		{`<table><p>a`, `table(tr(td(p("a"))))`},
		{`<table><tr><div>a`, `table(tr(td(div("a"))))`},
		{`<table><table>a`, `table(tr(td(table(tr(td("a"))))))`},
		{`<table><td>a<table><td>b<td>c</table>d<td>e`, `table(tr(td("a" table(tr(td("b") td("c"))) "d") td("e")))`},
		{`<table><td><table><td>a<tr>b`, `table(tr(td(table(tr(td("a")) tr(td("b"))))))`},
		{`<table><tr><td><table><td>a`, `table(tr(td(table(tr(td("a"))))))`},
	})
}

func TestParseEndsInTables(t *testing.T) {
	checkReadings(t, []reading{
		{`<table><td>a</td>b`, `table(tr(td("a") td("b")))`},
		{`<table><td>a</tr>b`, `table(tr(td("a")) tr(td("b")))`},
		{`<table><td>a</table>b`, `table(tr(td("a"))) "b"`},
		{`<table><td><b>a</td>c</b>d`, `table(tr(td(b("a")) td("cd")))`},
		{`<table></td></tr>a`, `table(tr(td("a")))`},
		// No td lies within, so these are closed, and the table with them.
		{`<b><table></b>a`, `b(table()) "a"`},
		{`<b><table><tr></b>a`, `b(table(tr())) "a"`},
		// A td lies within, so these are not.
		{`<b><table><td></b>a`, `b(table(tr(td("a"))))`},
		{`<div><table><td>a</div>b</table>c`, `div(table(tr(td("ab"))) "c")`},
		{`<b><table><td><b></b></b>a`, `b(table(tr(td(b() "a"))))`},
		// But for td, tr and table themselves.
		{`<table><td><table></td>a`, `table(tr(td(table()) td("a")))`},
		{`<table><td><table></tr>a`, `table(tr(td(table())) tr(td("a")))`},
		{`<table><td><table><td>a</table>b</table>c`, `table(tr(td(table(tr(td("a"))) "b"))) "c"`},
		{`<table><td><i></table>a`, `table(tr(td(i()))) "a"`},
	})
}

func TestParseDepth(t *testing.T) {
	b := func(n int) string { return strings.Repeat("<b>", n) }
	checkReadings(t, []reading{
		{b(12) + `a`, nested("b", 12, `"a"`)},
		{b(13) + `a`, nested("b", 12, `"a"`)},
		{b(100) + `a`, nested("b", 12, `"a"`)},
		{b(12) + `a<i>c</i>d`, nested("b", 12, `"acd"`)},
		{b(12) + `a<br>c<hr>d`, nested("b", 12, `"acd"`)},
		{b(11) + `a<br>c`, nested("b", 11, `"a" br() "c"`)},
		{b(12) + `a</b>c<i>d`, nested("b", 11, `b("a") "c" i("d")`)},
		// One that wasn't opened has no end of its own.
		{b(13) + `</b>a`, nested("b", 11, `b() "a"`)},
		{b(11) + `<style>a</style>c`, nested("b", 11, `style("a") "c"`)},
		{b(12) + `a<style>c<i></style>d`, nested("b", 12, `"ad"`)},
		{b(12) + `a<script></b>c`, nested("b", 12, `"a"`)},
		// What a start closes first makes room for it.
		{b(11) + `<p>a<p>c`, nested("b", 11, `p("a") p("c")`)},
		{`<p>` + b(11) + `<p>a`, `p(` + nested("b", 11, "") + `) p("a")`},
		{`<li>` + b(11) + `<li>a`, `li(` + nested("b", 11, "") + `) li("a")`},
		{b(9) + `<table><tr><td>a<td>c<tr>d`, nested("b", 9, `table(tr(td("a") td("c")) tr(td("d")))`)},
		// The tr and the td that would be opened first.
		{b(9) + `<table>a<i>c`, nested("b", 9, `table(tr(td("ac")))`)},
		{b(10) + `<table>a<td>c<tr>d<i>e`, nested("b", 10, `table(tr("ac") tr("de"))`)},
		{b(10) + `<table><br>a<style>c</style>d`, nested("b", 10, `table(tr("ad"))`)},
		{b(11) + `<table>a<tr>c<td>d<i>e<style>f</style>g`, nested("b", 11, `table("acdeg")`)},
		{b(11) + `<table></table>a`, nested("b", 11, `table() "a"`)},
		{b(12) + `<table>a<tr>c<td>d`, nested("b", 12, `"acd"`)},
		// No td, so no limit: the li around the table is closed.
		{`<li>` + b(10) + `<table><li>a`, `li(` + nested("b", 10, `table()`) + `) li("a")`},
		{`<li>` + b(9) + `<table><li>a`, `li(` + nested("b", 9, `table(tr())`) + `) li("a")`},
	})
}
