package kind_test

import (
	"testing"

	"scrub/api"
	"scrub/kind"
	"scrub/scrub"
)

// markup has elements of every kind, such as the policy names and others.
const markup = `<p>a<br><hr><b>c</b><style>d</style><script>e</script><ul><li>f</ul><table><td>g<img></table>`

var policy = api.Policy{Elements: []string{"p", "br", "style", "li", "table", "tr", "td"}}

func TestCallsLeaveTheTableUnmade(t *testing.T) {
	kind.Forget()
	l, e := scrub.Parse(markup)
	check := func(call string, e api.Errno) {
		if e != api.OK || kind.Made() {
			t.Errorf("%s: error %d, table made: %v", call, e, kind.Made())
		}
	}
	check("Parse", e)
	_, e = scrub.Write(l)
	check("Write", e)
	_, e = scrub.Clean(policy, markup)
	check("Clean", e)
	_, e = scrub.CleanAll(policy, []string{markup, markup})
	check("CleanAll", e)
}

func TestKindOfMakesTheTable(t *testing.T) {
	kind.Forget()
	if got := scrub.KindOf("td"); got != kind.Limit || !kind.Made() {
		t.Errorf("KindOf(td) = %d, table made: %v", got, kind.Made())
	}
}
