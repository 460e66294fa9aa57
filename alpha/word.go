package alpha

// word is a row of bits.
type word []bool

// wordsOf are the words of lengths that fit.
func wordsOf(lengths []int) []word {
	words := []word{make(word, lengths[0])}
	for _, length := range lengths[1:] {
		words = append(words, words[len(words)-1].next(length))
	}
	return words
}

// next is the word of a length behind another one: that and 1, which makes its last nought a one and those behind it noughts. So the rest is noughts, however many of them are added or taken away.
func (w word) next(length int) word {
	turned := w.lastNought()
	n := make(word, length)
	copy(n, w[:turned])
	n[turned] = true
	return n
}

// lastNought is the place of a word's last nought. Each word has one that has another word behind it.
func (w word) lastNought() int {
	place := len(w) - 1
	for w[place] {
		place--
	}
	return place
}
