package keys

import (
	"strings"
	"testing"

	"assayer/api"
)

func TestIs(t *testing.T) {
	for _, s := range []string{"x", "z9", "nil", "abcdef", "a00000"} {
		if !Is(s) {
			t.Errorf("%q is none", s)
		}
	}
	for _, s := range []string{"", "X", "1", "1a", "-1", "a b", " a", "a ", "a\n", "\n", "[", "(", "a_b", "é", "\x00", "abcdefg", strings.Repeat("a", api.MaxText), strings.Repeat("a", api.MaxText+1)} {
		if Is(s) {
			t.Errorf("%q is one", s)
		}
	}
}
