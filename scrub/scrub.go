// Package scrub: markup that stays clean when it is read again: see DOC.md.
package scrub

import (
	"slices"

	"scrub/api"
	"scrub/clean"
	"scrub/kind"
	"scrub/tree"
	"scrub/write"
)

// Parse reads markup (P3).
func Parse(s string) ([]api.Node, api.Errno) {
	if isLong(s) {
		return nil, api.ErrLong
	}
	return tree.Read(s), api.OK
}

// Write writes a tree (P4).
func Write(l []api.Node) (string, api.Errno) {
	if e := write.Check(l); e != api.OK {
		return "", e
	}
	return write.Markup(l), api.OK
}

// Clean cleans markup (P5).
func Clean(p api.Policy, s string) (string, api.Errno) {
	switch {
	case !clean.IsPolicy(p):
		return "", api.ErrPolicy
	case isLong(s):
		return "", api.ErrLong
	}
	return clean.Markup(p, s), api.OK
}

// CleanAll cleans many (P6).
func CleanAll(p api.Policy, l []string) ([]string, api.Errno) {
	switch {
	case !clean.IsPolicy(p):
		return nil, api.ErrPolicy
	case len(l) > api.MaxTexts:
		return nil, api.ErrMany
	case slices.ContainsFunc(l, isLong):
		return nil, api.ErrLong
	}
	return clean.All(p, l), api.OK
}

// KindOf tells the kind of the elements that have this name, in small letters,
// to those who make trees: what Kids Write takes hangs on it.
func KindOf(name string) kind.Kind { return kind.Listed(name) }

func isLong(s string) bool { return len(s) > api.MaxText }
