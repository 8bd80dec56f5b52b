// Package keys holds what histtext and report need to know of a key, so that both of them mean the same by it.
package keys

import (
	"assayer/api"
	"assayer/scan"
)

// Is tells whether a text is a key: a word of at most MaxKey bytes. What a word is, is left to layer 1.
func Is(s string) bool {
	if len(s) > api.MaxKey {
		return false
	}
	l, err := scan.Scan(s)
	return err == nil && len(l) == 1 && l[0].Kind == api.TokWord && l[0].Text == s
}
