package alpha

import "iter"

const (
	end      = 0   // the sign that stands behind each text
	allSigns = 257 // that, and one for each byte
)

// signOf is the sign of a byte.
func signOf(b byte) int { return int(b) + 1 }

// byteOf is the byte of a sign that is not the end.
func byteOf(sign int) byte { return byte(sign - 1) }

// isSign says whether a number is a sign.
func isSign(n int) bool { return n >= 0 && n < allSigns }

// areSigns says whether numbers are signs, and rise.
func areSigns(numbers []int) bool {
	for i, n := range numbers {
		if !isSign(n) || i > 0 && n <= numbers[i-1] {
			return false
		}
	}
	return true
}

// signsOf goes through a text's signs: those of its bytes, then the end.
func signsOf(s string) iter.Seq[int] {
	return func(yield func(int) bool) {
		for i := range len(s) {
			if !yield(signOf(s[i])) {
				return
			}
		}
		yield(end)
	}
}

// counted are the signs that stand in texts, rising, and how often each does.
func counted(texts []string) (signs, counts []int) {
	var often [allSigns]int
	for _, s := range texts {
		for sign := range signsOf(s) {
			often[sign]++
		}
	}
	for sign, n := range often {
		if n > 0 {
			signs, counts = append(signs, sign), append(counts, n)
		}
	}
	return signs, counts
}
