package term

import "unicode/utf8"

// areValid says whether texts are. The library tells of them what utf.Signs would, without a row of signs for each: terms are compared often.
func areValid(texts ...string) bool {
	for _, s := range texts {
		if !utf8.ValidString(s) {
			return false
		}
	}
	return true
}

// isWhole says whether a text is a label, or a tag, as a whole: longest tells how many bytes the longest one has with which a text begins.
func isWhole(s string, longest func(string) int) bool {
	n := longest(s)
	return n > 0 && n == len(s)
}

// lowered is a text with a to z for A to Z. All other bytes stay, those that are no sign's, too.
func lowered(s string) string {
	b := []byte(s)
	for i, letter := range b {
		if letter >= 'A' && letter <= 'Z' {
			b[i] += 'a' - 'A'
		}
	}
	return string(b)
}
