package lines_test

import (
	"slices"
	"strings"
	"testing"

	"ossuary/api"
	"ossuary/lines"
)

// someLines are lines of a file, mostly such as are right.
func someLines(c *chances) []string {
	some := make([]string, c.below(9))
	for i := range some {
		if c.below(12) > 0 {
			some[i] = c.some("", "\t", "#", "<a> <b> <c> .", "_:a<b>_:c.", "<a> <b> \"c\"@en . # d", "<a> <b> \"\\u0041\" ^^ <d> .", "<a> <b> \"#\".")
		} else {
			some[i] = c.some("<a> <b> .", "<a> <b> <c>", "_:a. <b> <c> .", "<a> <b> \"c", "# \xFF", "<a> <b> _:c . .", "<"+strings.Repeat("a", 5000)+"> <b> <c> .")
		}
	}
	return some
}

// P10.4: with one end of a line in place of another one all is told the same.
func TestOtherEnds(t *testing.T) {
	c := chances(1)
	for range 10_000 {
		some := someLines(&c)
		triples, line, at, e := fileOf(strings.Join(some, "\n"))
		tells(t, strings.Join(some, "\r"), triples, line, at, e)
		tells(t, strings.Join(some, "\r\n"), triples, line, at, e)
		var mixed strings.Builder
		end := ""
		for _, text := range some {
			if next := c.some("\n", "\r", "\r\n"); text == "" && end == "\r" && next == "\n" {
				end = "\r\n" // for a 10 would belong to the 13
			} else {
				end = next
			}
			mixed.WriteString(text + end)
		}
		tells(t, mixed.String(), triples, line, at, e)
	}
}

// P10.4: with lines more that are blank, or have a remark alone, all is told the same, but for the numbers of lines.
func TestBlankLinesMore(t *testing.T) {
	c := chances(2)
	for range 10_000 {
		some := someLines(&c)
		triples, line, at, e := fileOf(strings.Join(some, "\n"))
		var more []string
		moved := line
		for i, text := range some {
			for range c.below(3) {
				more = append(more, c.some("", " ", "\t ", "# a", " #", "#<a> <b> .", "# \"\\"))
				if i < line {
					moved++
				}
			}
			more = append(more, text)
		}
		tells(t, strings.Join(more, "\n"), triples, moved, at, e)
		tells(t, strings.Join(more, "\r\n")+"\r\n\r\n# b", triples, moved, at, e)
	}
}

// P10.4: with remarks behind lines all is told the same, but where a line ends too early, and its end is told.
func TestRemarksMore(t *testing.T) {
	c := chances(3)
	for range 10_000 {
		some := someLines(&c)
		triples, line, at, e := fileOf(strings.Join(some, "\n"))
		for i, text := range some {
			remark := c.some("", "#", " # a", "\t#\t\"<a")
			if i+1 == line && at == len(text) {
				at += len(remark)
			}
			if !strings.HasSuffix(text, `"c`) { // that one would take it for a part of a text
				some[i] = text + remark
			}
		}
		tells(t, strings.Join(some, "\n"), triples, line, at, e)
	}
}

// P10.4: a file of two, with an end between, has both's triples; if one has none, its first wrong line is told.
func TestTwoFiles(t *testing.T) {
	c := chances(4)
	for range 10_000 {
		end := c.some("\n", "\r", "\r\n")
		one, other := strings.Join(someLines(&c), end), strings.Join(someLines(&c), end)
		if end == "\r" {
			one += "#" // for an end of the second one may not belong to this one's
		}
		oneTriples, _, _, oneE := lines.Parse(one)
		otherTriples, _, _, otherE := lines.Parse(other)
		both := one + end + other
		if oneE == api.OK && otherE == api.OK {
			tells(t, both, slices.Concat(oneTriples, otherTriples), 0, 0, api.OK)
		}
		holds(t, both)
	}
}

// P10.3, P10.4: an object's text is the same term alone and in a file.
func TestTermsOfFiles(t *testing.T) {
	for s := range allTexts(4, "<a>", "_:b ", `"c"`, "@d", " ^^", "<"+xsdString+">") {
		x, at, e := lines.Term(s)
		if e != api.OK {
			continue
		}
		tells(t, "<a> <b> "+s+" .", []api.Triple{abc(x)}, 0, at, e)
	}
}

// R3, R4: what is answered is new memory, and alike each time.
func TestSharesNothing(t *testing.T) {
	const s = "<a> <b> <c> .\n_:a <b> \"c\"@en ."
	for range 2 {
		holds(t, s)
		triples, _, _, _ := lines.Parse(s)
		clear(triples[:cap(triples)])
		splits(t, s, linesOf(s)...)
		split := lines.Split(s)
		clear(split[:cap(split)])
	}
}

// R1: whatever bytes there are, the calls end, and tell what they should.
func TestAnyBytes(t *testing.T) {
	c := chances(5)
	pieces := []string{"<", ">", "\"", "\\", "@", "^^", "_:", "a", ".", "#", " ", "\n", "\r", "\xC3", "\xA9", "<a>", "_:b ", "\"c\"", "<a> <b> ", "<d> .", "\\u0041"}
	for range 100_000 {
		var s strings.Builder
		for range c.below(10) {
			s.WriteString(c.some(pieces...))
		}
		holds(t, s.String())
		holds(t, "<a> <b> "+s.String()+".")
		termHolds(t, s.String())
		splits(t, s.String(), linesOf(s.String())...)
	}
}
