// Package keys holds what histtext, report and ops need to know of a key, so that all of them mean the same by it.
package keys

import "assayer/api"

// Is tells whether a text is a key: a word of at most MaxKey bytes. What a word is, layer 1 says; it is said again here, since not every layer that asks for a key may call that one.
func Is(s string) bool {
	if s == "" || len(s) > api.MaxKey || isDigit(s[0]) {
		return false
	}
	for _, c := range []byte(s) {
		if !isSmall(c) && !isDigit(c) {
			return false
		}
	}
	return true
}

func isSmall(c byte) bool { return 'a' <= c && c <= 'z' }

func isDigit(c byte) bool { return '0' <= c && c <= '9' }
