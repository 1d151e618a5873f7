package impl

import (
	"errors"
	"slices"
	"strconv"
	"strings"
)

// Limits of texts.
const (
	RecMaxText  = 4000
	RecMaxLines = 60
	RecMaxWord  = 24
)

// Faults of texts.
const (
	RecBadWord = 1
	RecBadLine = 2
	RecAgain   = 3
	RecNoSuch  = 4
	RecTooMany = 5
	RecNothing = 6
	RecTooLong = 7
)

// RecFault is what is wrong with a text, and in which line.
type RecFault struct {
	Line int
	Code int
}

// Words of lines: of each form, and of the tail that all forms have.
const (
	wordFill   = "fill"
	wordMove   = "move"
	wordHold   = "hold"
	wordClean  = "clean"
	wordTest   = "test"
	wordWithin = "within"
	wordThen   = "then"
	wordElse   = "else"
)

// recTailWords is how many words a tail has.
const recTailWords = 6

// recForm reads what stands between the word of a form and the tail; false, if that is not of the form.
type recForm func(args []string) (RecPhase, bool)

// recForms has the forms by their words, as formOf tells them; no answer hangs on it.
var recForms map[string]recForm

func init() {
	recForms = map[string]recForm{
		wordFill:  readFill,
		wordMove:  readMove,
		wordHold:  readHold,
		wordClean: readClean,
		wordTest:  readTest,
	}
}

// formOf is the form of a word, or nil, if this is the word of none.
func formOf(word string) recForm {
	switch word {
	case wordFill:
		return readFill
	case wordMove:
		return readMove
	case wordHold:
		return readHold
	case wordClean:
		return readClean
	case wordTest:
		return readTest
	}
	return nil
}

func readFill(args []string) (RecPhase, bool) {
	return readAmount(RecFill, args)
}

func readMove(args []string) (RecPhase, bool) {
	return readAmount(RecMove, args)
}

func readHold(args []string) (RecPhase, bool) {
	if len(args) != 2 {
		return RecPhase{}, false
	}
	n, ok := shortDecimal(args[1])
	return RecPhase{Kind: RecHold, A: args[0], N: n}, ok
}

func readClean(args []string) (RecPhase, bool) {
	return readSlot(RecClean, args)
}

func readTest(args []string) (RecPhase, bool) {
	return readSlot(RecTest, args)
}

// readAmount reads two names and an amount.
func readAmount(kind int, args []string) (RecPhase, bool) {
	if len(args) != 3 {
		return RecPhase{}, false
	}
	n, ok := shortDecimal(args[2])
	return RecPhase{Kind: kind, A: args[0], B: args[1], N: n}, ok
}

// readSlot reads a slot alone.
func readSlot(kind int, args []string) (RecPhase, bool) {
	if len(args) != 1 {
		return RecPhase{}, false
	}
	return RecPhase{Kind: kind, A: args[0]}, true
}

// readTail puts what a tail says into a phase; false, if it is none.
func readTail(p *RecPhase, tail []string) bool {
	if tail[0] != wordWithin || tail[2] != wordThen || tail[4] != wordElse {
		return false
	}
	within, ok := shortDecimal(tail[1])
	p.Within, p.Then, p.Else = within, tail[3], tail[5]
	return ok
}

// readPhase reads the words of a line; false, if they are of no form. A tail is always as long, so that names and slots may be called like its words.
func readPhase(words []string) (RecPhase, bool) {
	tailAt := len(words) - recTailWords
	if tailAt < 2 {
		return RecPhase{}, false
	}
	form := formOf(words[1])
	if form == nil {
		return RecPhase{}, false
	}
	p, ok := form(words[2:tailAt])
	p.Name = words[0]
	return p, ok && readTail(&p, words[tailAt:])
}

// recWords cuts a line into words, of which there may be any number: too many of them are a fault of the line, and not of its words.
func recWords(line string) ([]string, bool) {
	said, _, _ := strings.Cut(line, "#")
	words := strings.FieldsFunc(said, func(r rune) bool { return r == ' ' })
	for _, word := range words {
		if len(word) > RecMaxWord || !isOfWordRunes(word) {
			return nil, false
		}
	}
	return freshTexts(words), true
}

func isOfWordRunes(word string) bool {
	for _, r := range word {
		if !isWordRune(r) {
			return false
		}
	}
	return true
}

// recReading is what was read of a text: phases, and of each the line that says it.
type recReading struct {
	phases []RecPhase
	lines  []int
}

// readLine looks for the faults that a line has whatever comes behind it.
func (g *recReading) readLine(number int, line string) error {
	words, ok := recWords(line)
	l := textLine{number: number, words: words}
	if !ok {
		return l.fault(RecBadWord)
	}
	if len(words) == 0 {
		return nil
	}
	p, ok := readPhase(words)
	switch {
	case !ok || !RecPhaseOk(p):
		return l.fault(RecBadLine)
	case phaseAt(g.phases, p.Name) >= 0:
		return l.fault(RecAgain)
	case len(g.phases) >= RecMaxPhases:
		return l.fault(RecTooMany)
	}
	g.phases, g.lines = append(g.phases, p), append(g.lines, number)
	return nil
}

// wholeFault looks for the faults that show when all lines are read.
func (g *recReading) wholeFault() error {
	for i, p := range g.phases {
		later := g.phases[i+1:]
		if !canGoOnTo(later, p.Then) || !canGoOnTo(later, p.Else) {
			return textFault{line: g.lines[i], code: RecNoSuch}
		}
	}
	if len(g.phases) == 0 {
		return textFault{code: RecNothing}
	}
	return nil
}

func readRecipe(text string) ([]RecPhase, error) {
	tooLong := textFault{code: RecTooLong}
	if len(text) > RecMaxText {
		return nil, tooLong
	}
	lines := linesOf(text)
	if len(lines) > RecMaxLines {
		return nil, tooLong
	}
	var reading recReading
	for i, line := range lines {
		if err := reading.readLine(i+1, line); err != nil {
			return nil, err
		}
	}
	return reading.phases, reading.wholeFault()
}

// RecParse reads a recipe.
func RecParse(text string) ([]RecPhase, RecFault) {
	// The table stands beside formOf: it is read here, and what is answered does not hang on it.
	_ = recForms
	r, err := readRecipe(text)
	var fault textFault
	if errors.As(err, &fault) {
		return nil, RecFault{Line: fault.line, Code: fault.code}
	}
	return r, RecFault{}
}

// wordOfForm is the word of the form that phases of a kind have.
func wordOfForm(kind int) string {
	switch kind {
	case RecFill:
		return wordFill
	case RecMove:
		return wordMove
	case RecHold:
		return wordHold
	case RecClean:
		return wordClean
	}
	return wordTest
}

// lineOfPhase is the words of a phase that is ok: B and N are nothing there just if its form has none.
func lineOfPhase(p RecPhase) []string {
	words := []string{p.Name, wordOfForm(p.Kind), p.A}
	if p.B != "" {
		words = append(words, p.B)
	}
	if p.N != 0 {
		words = append(words, strconv.Itoa(p.N))
	}
	return slices.Concat(words, []string{wordWithin, strconv.Itoa(p.Within), wordThen, p.Then, wordElse, p.Else})
}

// RecPrint writes a recipe.
func RecPrint(r []RecPhase) string {
	if !RecOk(r) {
		return ""
	}
	var text strings.Builder
	for _, p := range r {
		text.WriteString(strings.Join(lineOfPhase(p), " ") + "\n")
	}
	return text.String()
}
