package impl

import "strings"

// Limits of words.
const (
	PlantMaxWord  = 24
	PlantMaxWords = 16
)

// lineScanner takes the runes of a line one by one, each with the byte it begins at, and hands on to who takes the next one; false, if the line is refused.
type lineScanner interface {
	take(at int, r rune) (lineScanner, bool)
}

// gapScanner stands between words, behind those that have ended.
type gapScanner struct {
	line  string
	words []string
}

// wordScanner stands in a word, which began at a byte, behind a gap.
type wordScanner struct {
	gap  gapScanner
	from int
}

func (g gapScanner) take(at int, r rune) (lineScanner, bool) {
	if r == ' ' {
		return g, true
	}
	return wordScanner{gap: g, from: at}, isWordRune(r) && len(g.words) < PlantMaxWords
}

func (w wordScanner) take(at int, r rune) (lineScanner, bool) {
	if r == ' ' {
		// A clone, so that whoever keeps a word does not keep the whole line.
		word := strings.Clone(w.gap.line[w.from:at])
		return gapScanner{line: w.gap.line, words: append(w.gap.words, word)}, true
	}
	return w, isWordRune(r) && at-w.from < PlantMaxWord
}

// isWordRune may judge by runes though words are of bytes: a byte above 127, in valid UTF-8 or not, is ranged over as a rune above 127.
func isWordRune(r rune) bool {
	return r >= 33 && r <= 126
}

// PlantWords cuts a line into words.
func PlantWords(line string) ([]string, bool) {
	said, _, _ := strings.Cut(line, "#")
	var scanner lineScanner = gapScanner{line: said}
	for at, r := range said {
		next, ok := scanner.take(at, r)
		if !ok {
			return nil, false
		}
		scanner = next
	}
	// The end of a line ends its last word as a space does.
	last, _ := scanner.take(len(said), ' ')
	gap, ok := last.(gapScanner)
	return gap.words, ok
}
