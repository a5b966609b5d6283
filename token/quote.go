package token

import (
	"strconv"
	"strings"

	"elenchus/api"
)

// Quote answers the name as it has to be written: itself, if it is plain, else between quotes.
func Quote(name string) string {
	if Plain(name) {
		return name
	}
	var text strings.Builder
	text.WriteByte('\'')
	rest := 0
	for i, sign := range name {
		// Bytes that are no text stand as they are, like all signs that need no backslash.
		if escape := escaped(sign); escape != "" {
			text.WriteString(name[rest:i] + escape)
			rest = i + 1
		}
	}
	text.WriteString(name[rest:] + "'")
	return text.String()
}

// escaped answers what stands between quotes for a sign that may not stand there itself, and the empty text for others.
func escaped(sign rune) string {
	switch {
	case sign == '\'', sign == '\\':
		return `\` + string(sign)
	case sign == '\n':
		return `\n`
	case sign == '\t':
		return `\t`
	case isControl(sign):
		return `\x` + strconv.FormatInt(int64(sign), 16) + `\`
	}
	return ""
}

// quoted answers the token of the quoted name that begins there.
func quoted(b []byte, at int) (api.Token, int, api.Errno) {
	var text []byte
	for i := at + 1; i < len(b); {
		if b[i] == '\'' && !isQuotePair(b, i) {
			// That a name is too long is told only of one that has nothing else wrong with it.
			if len(text) > api.MaxName {
				return api.Token{}, at, api.ErrLong
			}
			return api.Token{Kind: api.TokQuoted, S: string(text)}, i + 1, api.OK
		}
		c, long := piece(b, i)
		if long == 0 {
			break
		}
		text = append(text, c)
		i += long
	}
	return api.Token{}, at, api.ErrToken
}

// isQuotePair tells whether two quotes stand there.
func isQuotePair(b []byte, at int) bool {
	return at+1 < len(b) && b[at] == '\'' && b[at+1] == '\''
}

// piece answers the byte that is written at that place within a quoted name, and how many bytes it is written with; none, if that may not be.
func piece(b []byte, at int) (c byte, long int) {
	switch c := b[at]; {
	case c == '\'':
		return c, 2
	case c == '\\':
		return unescape(b[at:])
	case isControl(rune(c)):
		return 0, 0
	default:
		return c, 1
	}
}

// unescape answers the byte that is written there with a backslash ahead, and how many bytes it is written with; none, if that may not be.
func unescape(b []byte) (c byte, long int) {
	if len(b) < 2 {
		return 0, 0
	}
	switch b[1] {
	case '\\', '\'':
		return b[1], 2
	case 'n':
		return '\n', 2
	case 't':
		return '\t', 2
	case 'x':
		return unhex(b)
	}
	return 0, 0
}

// unhex answers the byte that is written there by a backslash, x, hex digits, and a backslash; none, if that may not be.
func unhex(b []byte) (c byte, long int) {
	end := row(b, 2, isHex)
	if end < 3 || end > 4 || end == len(b) || b[end] != '\\' {
		return 0, 0
	}
	for _, digit := range b[2:end] {
		c = 16*c + hexValue(digit)
	}
	return c, end + 1
}

// hexValue answers the hex digit's number.
func hexValue(digit byte) byte {
	if digit >= 'a' {
		return digit - 'a' + 10
	}
	return digit - '0'
}
