package clean

import (
	"slices"
	"strings"

	"scrub/api"
)

// beginnings: what the value of an attribute that leads elsewhere must begin
// with, in these very letters.
var beginnings = [...]string{"http:", "https:", "/", "#"}

// IsPolicy tells if the policy's lists and the names in them keep to the limits.
func IsPolicy(p api.Policy) bool {
	return areNames(p.Elements) && areNames(p.Attrs)
}

func areNames(l []string) bool {
	return len(l) <= api.MaxNames && !slices.ContainsFunc(l, isNoName)
}

func isNoName(s string) bool {
	return s == "" || len(s) > api.MaxName
}

func letsElement(p api.Policy, name string) bool {
	return slices.Contains(p.Elements, name)
}

func letsAttr(p api.Policy, a api.Attr) bool {
	if !slices.Contains(p.Attrs, a.Name) {
		return false
	}
	return !leadsElsewhere(a.Name) || beginsWell(a.Value)
}

func leadsElsewhere(name string) bool {
	return name == "href" || name == "src"
}

func beginsWell(value string) bool {
	for _, beginning := range beginnings {
		if strings.HasPrefix(value, beginning) {
			return true
		}
	}
	return false
}
