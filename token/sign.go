package token

import "strings"

// Plain tells whether the name may stand as it is, without quotes.
func Plain(name string) bool {
	switch name {
	case "!", ";", "[]", "{}":
		return true
	case "", ".":
		return false
	}
	if isSmall(rune(name[0])) {
		return every(name, isInName)
	}
	return !strings.HasPrefix(name, "/*") && every(name, isSign)
}

// every tells whether all signs of the name belong.
func every(name string, belongs func(c rune) bool) bool {
	for _, sign := range name {
		if !belongs(sign) {
			return false
		}
	}
	return true
}

// The functions below tell signs apart, and bytes: of a sign that has several bytes they answer what they answer of each of these.

func isSmall(c rune) bool   { return c >= 'a' && c <= 'z' }
func isCapital(c rune) bool { return c >= 'A' && c <= 'Z' }
func isDigit(c rune) bool   { return c >= '0' && c <= '9' }

// isHex tells whether it is a hex digit, of which the letters are small ones.
func isHex(c rune) bool { return isDigit(c) || c >= 'a' && c <= 'f' }

// isInName tells whether it may stand within a name of letters.
func isInName(c rune) bool {
	return isSmall(c) || isCapital(c) || isDigit(c) || c == '_'
}

// isSign tells whether it stands in names of signs.
func isSign(c rune) bool {
	switch c {
	case '+', '-', '*', '/', '\\', '^', '<', '>', '=', '~', ':', '.', '?', '@', '#', '&', '$':
		return true
	}
	return false
}

// isAlone tells whether it is a name by itself.
func isAlone(c rune) bool { return c == '!' || c == ';' }

// isPunct tells whether it parts names from one another.
func isPunct(c rune) bool {
	switch c {
	case '(', ')', '[', ']', '{', '}', ',', '|':
		return true
	}
	return false
}

// isControl tells whether it may not stand as it is within a quoted name, though it is neither a quote nor a backslash.
func isControl(c rune) bool { return c < 32 || c == 127 }

// isInLine tells whether it does not end a line.
func isInLine(c rune) bool { return c != '\n' }
