// Package label is layer 1: one part of a name, octets whatever they are, and the text that stands for them.
package label

import (
	"strings"

	"nameplate/api"
)

const (
	dot    = '.'  // a name's text parts its labels by it
	escape = '\\' // what is behind it isn't taken as it stands
)

// Check tells whether l may be a label: how many octets it has is all that counts.
func Check(l string) api.Errno {
	switch {
	case len(l) == 0:
		return api.ErrArg
	case len(l) > api.MaxLabel:
		return api.ErrLong
	}
	return api.OK
}

// Fold answers l with small letters. Only A to Z have them: an octet stands for itself, not for a part of a rune.
func Fold(l string) string {
	return mapped(l, func(c byte) byte {
		if 'A' <= c && c <= 'Z' {
			return c - 'A' + 'a'
		}
		return c
	})
}

// mapped answers l with each octet in whose place change puts another.
func mapped(l string, change func(byte) byte) string {
	octets := []byte(l)
	for i, c := range octets {
		octets[i] = change(c)
	}
	return string(octets)
}

// Same tells whether a and b are the same label: large and small letters are not told apart.
func Same(a, b string) bool { return Compare(a, b) == 0 }

// Compare answers -1, 0 or 1: the order of a and b, folded, octet by octet.
func Compare(a, b string) int { return strings.Compare(Fold(a), Fold(b)) }

// Text answers what l is written as, so that Read tells the same octets again.
func Text(l string) (string, api.Errno) {
	if e := Check(l); e != api.OK {
		return "", e
	}
	text := make([]byte, 0, len(l))
	for _, c := range []byte(l) {
		switch {
		case !visible(c):
			text = appendEscaped(text, '0'+c/100, '0'+c/10%10, '0'+c%10)
		case c == dot || c == escape:
			text = appendEscaped(text, c)
		default:
			text = append(text, c)
		}
	}
	return string(text), api.OK
}

// appendEscaped puts an escape behind text, and the digits or the one octet that it is for.
func appendEscaped(text []byte, digits ...byte) []byte {
	return append(append(text, escape), digits...)
}

// visible tells whether c may stand in a text without an escape ahead; dot and escape are visible, too.
func visible(c byte) bool { return '!' <= c && c <= '~' }

func isDigit(c byte) bool { return '0' <= c && c <= '9' }

// Read answers the label whose text begins at s[at], and where that text ends: at a dot, or at the end of s.
func Read(s string, at int) (l string, end int, e api.Errno) {
	if at < 0 || at > len(s) {
		return "", 0, api.ErrArg
	}
	var octets []byte
	for at < len(s) && s[at] != dot {
		octet, next, fault := readOctet(s, at)
		if fault != api.OK {
			return "", 0, fault
		}
		// Asked at once: what is behind the first octet too many doesn't count any more.
		if len(octets) == api.MaxLabel {
			return "", 0, api.ErrLong
		}
		octets = append(octets, octet)
		at = next
	}
	if len(octets) == 0 {
		return "", 0, api.ErrArg
	}
	return string(octets), at, api.OK
}

// readOctet answers the octet whose text begins at s[at], and the place behind that text.
func readOctet(s string, at int) (octet byte, next int, e api.Errno) {
	switch {
	case s[at] == escape:
		return readEscaped(s, at+1)
	case visible(s[at]):
		return s[at], at + 1, api.OK
	}
	return 0, 0, api.ErrText
}

// readEscaped is readOctet behind an escape: s[at] may be beyond the end.
func readEscaped(s string, at int) (octet byte, next int, e api.Errno) {
	switch {
	case at == len(s):
		return 0, 0, api.ErrText
	case isDigit(s[at]):
		return readDigits(s, at)
	}
	return s[at], at + 1, api.OK
}

// readDigits answers the octet whose number is the three digits from s[at] on.
func readDigits(s string, at int) (octet byte, next int, e api.Errno) {
	const digits, most = 3, 255
	if len(s)-at < digits {
		return 0, 0, api.ErrText
	}
	number := 0
	for _, d := range []byte(s[at : at+digits]) {
		if !isDigit(d) {
			return 0, 0, api.ErrText
		}
		number = number*10 + int(d-'0')
	}
	if number > most {
		return 0, 0, api.ErrText
	}
	return byte(number), at + digits, api.OK
}
