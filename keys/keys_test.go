package keys

import (
	"strings"
	"testing"

	"assayer/api"
	"assayer/scan"
)

func TestIs(t *testing.T) {
	for _, s := range []string{"x", "z9", "nil", "abcdef", "a00000"} {
		if !Is(s) {
			t.Errorf("%q is none", s)
		}
	}
	for _, s := range []string{"", "X", "1", "1a", "-1", "a b", " a", "a ", "a\n", "\n", "[", "(", "a_b", "é", "\x00", "abcdefg", strings.Repeat("a", api.MaxText), strings.Repeat("a", api.MaxText+1)} {
		if Is(s) {
			t.Errorf("%q is one", s)
		}
	}
}

// isWord tells whether a text is a word of layer 1's and nothing else.
func isWord(s string) bool {
	l, err := scan.Scan(s)
	return err == nil && len(l) == 1 && l[0].Kind == api.TokWord && l[0].Text == s
}

// What a word is, is what layer 1 takes for one, of any bytes.
func TestWords(t *testing.T) {
	for n := range 1 << 16 {
		for _, s := range []string{string([]byte{byte(n), byte(n >> 8)}), "k" + string([]byte{byte(n), byte(n >> 8)}) + "9"} {
			if Is(s) != isWord(s) {
				t.Fatalf("%q: %v", s, Is(s))
			}
		}
	}
	for n := range 256 {
		for size := range api.MaxKey {
			s := strings.Repeat("a", size) + string([]byte{byte(n)}) + strings.Repeat("a", api.MaxKey-size-1)
			if Is(s) != isWord(s) || Is(s[size:]) != isWord(s[size:]) {
				t.Fatalf("%q: %v, %v", s, Is(s), Is(s[size:]))
			}
		}
	}
}
