// Package scan is layer 1: see ../../shared/doc/01-scan.md.
package scan

import (
	"strconv"
	"strings"

	"assayer/api"
)

// Scan is a text's tokens.
func Scan(s string) ([]api.Token, error) {
	if len(s) > api.MaxText {
		return nil, api.Fault{At: 0, Why: api.ErrFull}
	}
	var out []api.Token
	var fault api.Fault
	at := 0
text:
	for at < len(s) {
		token, end := api.Token{At: at}, at+1
		switch c := s[at]; {
		case c == ' ':
			at = end
			continue text
		case isSmall(c):
			token.Kind, end = api.TokWord, wordEnd(s, at)
		case c == '-' || isDigit(c):
			token.Kind = api.TokNumber
			if token.Number, end, fault = number(s, at); fault.Why != api.OK {
				break text
			}
		case c == '(' || c == ')' || c == '[' || c == ']':
			token.Kind = api.TokMark
		case c == '\n':
			token.Kind = api.TokLine
		default:
			fault = api.Fault{At: at, Why: api.ErrChar}
			break text
		}
		// A piece of s would keep the whole of it in memory.
		token.Text = strings.Clone(s[at:end])
		out = append(out, token)
		at = end
	}
	if fault.Why != api.OK {
		return nil, fault
	}
	return out, nil
}

// number is the number that begins at a place with a digit or a -, and the place behind it.
func number(s string, at int) (int, int, api.Fault) {
	first := at
	if s[at] == '-' {
		first++
		if first == len(s) || s[first] < '1' || s[first] > '9' {
			return 0, 0, api.Fault{At: at, Why: api.ErrChar}
		}
	}
	end := first + 1
	// A nought ends its number at once, so that a digit behind it is the fault.
	for s[first] != '0' && end < len(s) && isDigit(s[end]) {
		end++
	}
	n, err := strconv.Atoi(s[at:end])
	if err != nil {
		return 0, 0, api.Fault{At: at, Why: api.ErrBig}
	}
	if end < len(s) && (isSmall(s[end]) || isDigit(s[end])) {
		return 0, 0, api.Fault{At: end, Why: api.ErrChar}
	}
	return n, end, api.Fault{}
}

// wordEnd is the place behind the word that begins at a place.
func wordEnd(s string, at int) int {
	for at < len(s) && (isSmall(s[at]) || isDigit(s[at])) {
		at++
	}
	return at
}

func isSmall(c byte) bool { return 'a' <= c && c <= 'z' }

func isDigit(c byte) bool { return '0' <= c && c <= '9' }

// Print is tokens as a text.
func Print(l []api.Token) string {
	var b strings.Builder
	inLine := false
	for _, t := range l {
		var text string
		switch t.Kind {
		case api.TokWord, api.TokMark:
			text = t.Text
		case api.TokNumber:
			text = strconv.Itoa(t.Number)
		case api.TokLine:
			b.WriteByte('\n')
			inLine = false
			continue
		default:
			continue
		}
		if inLine {
			b.WriteByte(' ')
		}
		b.WriteString(text)
		inLine = true
	}
	return b.String()
}
