package scrub_test

import (
	"slices"
	"strings"
	"testing"

	"scrub/api"
	"scrub/scrub"
)

// lets answers the policy of these names, with blanks between.
func lets(elements, attrs string) api.Policy {
	return api.Policy{Elements: strings.Fields(elements), Attrs: strings.Fields(attrs)}
}

type cleaning struct {
	markup, want string
}

func checkCleaning(t *testing.T, p api.Policy, s, want string, wantErr api.Errno) {
	t.Helper()
	if got, e := scrub.Clean(p, s); got != want || e != wantErr {
		t.Errorf("Clean(%q, %q)\n got %q, %d\nwant %q, %d", p, s, got, e, want, wantErr)
	}
}

func checkCleanings(t *testing.T, p api.Policy, list []cleaning) {
	t.Helper()
	for _, c := range list {
		checkCleaning(t, p, c.markup, c.want, api.OK)
	}
}

func TestCleanExamples(t *testing.T) {
	const items = `<ul><li>a<ul><li>b`
	checkCleaning(t, lets("li", ""), items, `<li>a</li><li>b</li>`, api.OK)
	checkCleaning(t, lets("ul li", ""), items, `<ul><li>a<ul><li>b</li></ul></li></ul>`, api.OK)
	checkCleaning(t, lets("table td", ""), `<table>a<tr><td>b</table>`, ``, api.OK)
	checkCleaning(t, lets("table tr td", ""), `<table>a<tr><td>b</table>`,
		`<table><tr><td>a</td></tr><tr><td>b</td></tr></table>`, api.OK)
}

func TestCleanLetsBy(t *testing.T) {
	checkCleanings(t, lets("p b br ul li style table tr td", "x y"), []cleaning{
		{``, ``},
		{`a`, `a`},
		{`<P>a<b>c</p>d`, `<p>a<b>c</b></p>d`},
		{`<p X=1 y='2'>a<br x>`, `<p x="1" y="2">a<br x=""></p>`},
		{`<b y=2 x=1>`, `<b y="2" x="1"></b>`},
		{`<b x="&amp;&lt;>&quot;">`, `<b x="&amp;&lt;>&quot;"></b>`},
		{`& < > " &lt;b&gt;`, `&amp; &lt; &gt; " &lt;b&gt;`},
		{`<style x=1>a & <b></STYLE >c`, `<style x="1">a & <b></style>c`},
		{`<style></style>`, `<style></style>`},
		{`<table>a`, `<table><tr><td>a</td></tr></table>`},
		{`<!-- a -->b<b`, `b`},
		{"\x00\xff", "\x00\xff"},
	})
}

func TestCleanElementsThatGo(t *testing.T) {
	checkCleanings(t, lets("p b br", ""), []cleaning{
		{`<i>a</i>`, `a`},
		{`<i></i>`, ``},
		{`<i><b>a</b></i>`, `<b>a</b>`},
		{`<b><i>a</i></b>`, `<b>a</b>`},
		{`<b><i></i></b>`, `<b></b>`},
		{`<i><u><b>a</b><s>c<b>d`, `<b>a</b>c<b>d</b>`},
		{`<p>a<i>c<br>d</i>e</p>f`, `<p>ac<br>de</p>f`},
		{`<i><p>a</p></i>b`, `<p>a</p>b`},
		{`<hr><img x=1>`, ``},
		{`<br><hr><br>`, `<br><br>`},
		{`<table>a<td>b<td><p>c</table>d`, `ab<p>c</p>d`},
		{`<bb>a<br2>c<P2>d`, `acd`},
	})
	checkCleaning(t, api.Policy{}, `<p x=1>a<b>c</b><br>d</p><script>e</script>f`, `acdf`, api.OK)
}

func TestCleanRawElementsThatGo(t *testing.T) {
	for _, name := range []string{"style", "script", "STYLE", "Script"} {
		checkCleanings(t, lets("b", ""), []cleaning{
			{`<` + name + `>a</` + name + `>`, ``},
			{`<` + name + `></` + name + `>a`, `a`},
			{`<` + name + `><b>a</b></` + name + `><b>c`, `<b>c</b>`},
			{`<b>a<` + name + `>c</b></` + name + `>d`, `<b>ad</b>`},
			{`<i><` + name + `>a</` + name + `></i>b`, `b`},
			{`a<` + name + `>b`, `a`},
		})
	}
	const both = `<style>a<b></style><script>c<b></script>`
	checkCleaning(t, lets("style", ""), both, `<style>a<b></style>`, api.OK)
	checkCleaning(t, lets("script", ""), both, `<script>c<b></script>`, api.OK)
	checkCleaning(t, lets("style script", ""), both, both, api.OK)
	checkCleaning(t, lets("style", ""), `<script><style>a</style></script>`, ``, api.OK)
	checkCleaning(t, lets("script", ""), `<style></style <script>a</script>`, `a`, api.OK)
}

func TestCleanTextsBesideOneAnother(t *testing.T) {
	checkCleanings(t, lets("b", ""), []cleaning{
		{`a<i>c</i>d`, `acd`},
		{`a<i><u>c</u></i><hr>d`, `acd`},
		{`<i>a</i><u>c</u>`, `ac`},
		{`<b>a<i>c</i></b><i>d</i>e`, `<b>ac</b>de`},
		{`&<i>lt;</i>`, `&amp;lt;`},
		{`&am<hr>p;`, `&amp;amp;`},
		{`<<hr>b>`, `&lt;b&gt;`},
		{`<<i>script></i>a<<i>/script></i>`, `&lt;script&gt;a&lt;/script&gt;`},
	})
}

func TestCleanAttrsThatGo(t *testing.T) {
	checkCleanings(t, lets("b", "x data-y =z \"q\" é"), []cleaning{
		{`<b x=1 y=2>`, `<b x="1"></b>`},
		{`<b y=2>`, `<b></b>`},
		{`<b y=2 X=1 z=3>`, `<b x="1"></b>`},
		{`<b xx=1 x=2>`, `<b x="2"></b>`},
		{`<b x=1 x=2>`, `<b x="1"></b>`},
		{`<b data-y=1 data=2>`, `<b data-y="1"></b>`},
		{`<b =z=1 z=2>`, `<b =z="1"></b>`},
		{`<b "q" q>`, `<b "q"=""></b>`},
		{`<b É=1 é=2>`, `<b é="2"></b>`},
		{`<i x=1>a`, `a`},
		{`<b onclick=x href=/>`, `<b></b>`},
	})
	checkCleaning(t, lets("b", ""), `<b x=1 href=http:>a`, `<b>a</b>`, api.OK)
	// What is let by as an element is not let by as an attribute, nor the other way.
	checkCleaning(t, lets("b", "i"), `<b b=1 i=2><i b=1 i=2>a`, `<b i="2">a</b>`, api.OK)
}

func TestCleanLinks(t *testing.T) {
	p := lets("a", "href src hrefs rel")
	for _, value := range []string{
		`http:`, `http:x`, `http://x`, `https:`, `https:x`, `/`, `/x`, `//x`, `#`, `#x`, `/javascript:x`, `#http`, "http:\n",
	} {
		for _, name := range []string{"href", "src"} {
			want := `<a ` + name + `="` + value + `">b</a>`
			checkCleaning(t, p, want, want, api.OK)
			checkCleaning(t, p, `<a `+strings.ToUpper(name)+`='`+value+`'>b`, want, api.OK)
		}
	}
	for _, value := range []string{
		``, `x`, `http`, `https`, `httpx:`, `httpss:`, `xhttp:`, `HTTP:x`, `Https:x`, `httpS:x`, ` http:x`, "\thttps:x", "\nhttp:",
		` /`, ` #`, `x/`, `x#`, `&#`, `javascript:x`, `JavaScript:/`, `data:#`, `ftp:`, `ttp:`, `\/`, `?`, `.`, `./x`, "\x00/", `'/`, `&amp;/`, `&lt;/`, `&quot;/`,
	} {
		for _, name := range []string{"href", "src", "HREF", "sRC"} {
			checkCleaning(t, p, `<a `+name+`="`+value+`">b`, `<a>b</a>`, api.OK)
			checkCleaning(t, p, `<a rel=1 `+name+`="`+value+`" hrefs=2>b`, `<a rel="1" hrefs="2">b</a>`, api.OK)
		}
	}
	checkCleanings(t, p, []cleaning{
		{`<a href>b`, `<a>b</a>`},
		{`<a href=javascript:x src=/y>`, `<a src="/y"></a>`},
		{`<a href=/x src=javascript:y>`, `<a href="/x"></a>`},
		// The first counts, also if it goes.
		{`<a href=x href=/>`, `<a></a>`},
		{`<a href=/ href=x>`, `<a href="/"></a>`},
		{`<a hrefs=x rel=javascript:y>`, `<a hrefs="x" rel="javascript:y"></a>`},
	})
	checkCleaning(t, lets("a", "src"), `<a href=/x src=/y>`, `<a src="/y"></a>`, api.OK)
	checkCleaning(t, lets("a", "href"), `<a href=/x src=/y>`, `<a href="/x"></a>`, api.OK)
}

func TestCleanBySecondRound(t *testing.T) {
	for _, c := range []struct {
		elements, markup, want string
	}{
		{"li", `<ul><li>a<ul><li>b<ul><li>c`, `<li>a</li><li>b</li><li>c</li>`},
		{"p", `<p>a<table><td><p>b</table>c`, `<p>a</p><p>b</p>c`},
		{"p div", `<p>a<table><td><div>b`, `<p>a</p><div>b</div>`},
		{"p ul li", `<p>a<table><td><ul><li>b`, `<p>a</p><ul><li>b</li></ul>`},
		{"td", `<table><td>a</table>b`, `ab`},
		{"tr", `<table><td>a<tr>b</table>c`, `abc`},
		{"tr td b", `<table><td>a<b>c`, `a<b>c</b>`},
		// The td goes that kept the inner li from closing the outer one.
		{"li b", `<li><b>a<table><td><li>c</table>d`, `<li><b>a</b></li><li>c</li>d`},
	} {
		checkCleaning(t, lets(c.elements, ""), c.markup, c.want, api.OK)
	}
}

func TestCleanGivesNothing(t *testing.T) {
	for _, c := range []struct {
		elements, markup string
	}{
		{"table td", `<table><td>a`},
		{"table td", `a<table><td></table>b`},
		{"table tr", `<table>a`},
		{"table", `a<b><table>a</table></b>c`},
		{"table", `<table><table>`},
		{"p table", `<table><p>`},
		{"table br", `<p>a<table><br></table>`},
	} {
		checkCleaning(t, lets(c.elements, ""), c.markup, ``, api.OK)
	}
	// A table that nothing is left in stays, without tr and td too.
	checkCleaning(t, lets("table", ""), `a<table></table>b`, `a<table></table>b`, api.OK)
	checkCleaning(t, lets("table", ""), `<table><script>a</script></table>`, `<table></table>`, api.OK)
	checkCleaning(t, lets("table tr", ""), `<table><td>`, `<table><tr></tr></table>`, api.OK)
}

func TestCleanHoweverLongItGrows(t *testing.T) {
	signs := strings.Repeat("<", api.MaxText)
	checkCleaning(t, api.Policy{}, signs, strings.ReplaceAll(signs, "<", "&lt;"), api.OK)
	// The second round is of more than MaxText bytes.
	head := `<ul><li>a<ul><li>`
	tail := strings.Repeat("&", api.MaxText-len(head))
	checkCleaning(t, lets("li", ""), head+tail, `<li>a</li><li>`+strings.Repeat("&amp;", len(tail))+`</li>`, api.OK)
	items := strings.Repeat(`<ul><li>`, 6) + strings.Repeat(`</ul><ul><li>`, 42)
	if got, e := scrub.Clean(lets("li", ""), items); len(items) > api.MaxText || e != api.OK || got != strings.Repeat(`<li></li>`, 48) {
		t.Errorf("Clean of %d bytes: %q, %d", len(items), got, e)
	}
}

// named answers so many names that are so long.
func named(count, length int) []string {
	return slices.Repeat([]string{strings.Repeat("x", length)}, count)
}

// refused: policies that are none.
func refused() []api.Policy {
	good := named(api.MaxNames, api.MaxName)
	bad := [][]string{
		named(api.MaxNames+1, 1),
		named(api.MaxNames+1, api.MaxName),
		named(1000, 1),
		{""},
		{"a", ""},
		{"", "a"},
		{strings.Repeat("x", api.MaxName+1)},
		{"a", strings.Repeat("x", api.MaxName+1), "b"},
		{strings.Repeat("é", api.MaxName/2) + "x"},
		append(slices.Clone(good[1:]), ""),
		append(slices.Clone(good[1:]), good[0]+"x"),
	}
	var list []api.Policy
	for _, l := range bad {
		list = append(list,
			api.Policy{Elements: l}, api.Policy{Attrs: l}, api.Policy{Elements: l, Attrs: l},
			api.Policy{Elements: l, Attrs: good}, api.Policy{Elements: good, Attrs: l})
	}
	return list
}

func TestCleanPolicies(t *testing.T) {
	for _, p := range refused() {
		checkCleaning(t, p, "", "", api.ErrPolicy)
		checkCleaning(t, p, "a<b>c", "", api.ErrPolicy)
		checkCleaning(t, p, strings.Repeat("a", api.MaxText+1), "", api.ErrPolicy)
	}
	most := named(api.MaxNames, api.MaxName)
	for _, p := range []api.Policy{
		{},
		{Elements: []string{}, Attrs: []string{}},
		{Elements: most},
		{Attrs: most},
		{Elements: most, Attrs: most},
		// What no element and no attribute is named lets nothing by.
		{Elements: []string{"B", " ", "<b>", "b ", "\xff"}, Attrs: []string{"X", "x=", ">"}},
	} {
		checkCleaning(t, p, "a<b x=1>c", "ac", api.OK)
	}
	name := most[0]
	p := api.Policy{Elements: append(named(api.MaxNames-1, 1), name), Attrs: append(named(api.MaxNames-1, 1), name)}
	checkCleaning(t, p, "<"+name+" "+name+"=1 y>a<y>", "<"+name+" "+name+`="1">a</`+name+">", api.OK)
}

func TestCleanLength(t *testing.T) {
	most := strings.Repeat("a", api.MaxText)
	for _, p := range []api.Policy{{}, lets("b", "x"), {Elements: named(api.MaxNames, api.MaxName)}} {
		checkCleaning(t, p, most, most, api.OK)
		checkCleaning(t, p, most+"a", "", api.ErrLong)
		checkCleaning(t, p, strings.Repeat("<b>", 1000), "", api.ErrLong)
		// It is what is handed in that counts, not what would be left of it.
		checkCleaning(t, p, most+"<i>", "", api.ErrLong)
	}
	checkCleaning(t, lets("b", ""), "<b>"+most[7:]+"</b>", "<b>"+most[7:]+"</b>", api.OK)
}
