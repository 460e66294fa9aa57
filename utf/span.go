package utf

// span are the signs from one to another.
type span [2]int

// has says whether a sign is one of them.
func (s span) has(sign int) bool { return s[0] <= sign && sign <= s[1] }

// within says whether a sign is one of some spans'.
func within(sign int, spans ...span) bool {
	for _, s := range spans {
		if s.has(sign) {
			return true
		}
	}
	return false
}

// opensLabel says whether a label may begin with a sign.
func opensLabel(sign int) bool {
	return isLatinOrDigit(sign) || sign == '_' || sign == ':' || within(sign,
		span{0xC0, 0xD6}, span{0xD8, 0xF6}, span{0xF8, 0x2FF},
		span{0x370, 0x37D}, span{0x37F, 0x1FFF},
		span{0x200C, 0x200D}, span{0x2070, 0x218F}, span{0x2C00, 0x2FEF},
		span{0x3001, 0xD7FF}, span{0xF900, 0xFDCF}, span{0xFDF0, 0xFFFD},
		span{0x10000, 0xEFFFF},
	)
}

// isLetter says whether a sign may stand anywhere behind that one.
func isLetter(sign int) bool {
	return opensLabel(sign) || isHyphen(sign) || within(sign, span{0xB7, 0xB7}, span{0x300, 0x36F}, span{0x203F, 0x2040})
}

// isLatin says whether a sign is one of A to Z, a to z.
func isLatin(sign int) bool {
	return within(sign, span{'A', 'Z'}, span{'a', 'z'})
}

// isLatinOrDigit says whether a sign is one of these, or of 0 to 9.
func isLatinOrDigit(sign int) bool {
	return isLatin(sign) || within(sign, span{'0', '9'})
}

func isHyphen(sign int) bool { return sign == '-' }

func isPoint(sign int) bool { return sign == '.' }
