package tests

import (
	"fmt"
	"math/rand"
	"reflect"
	"regexp"
	"slices"
	"strconv"
	"strings"
	"sync"
	"testing"

	"loop.example/malthouse/impl"
)

// brewText is brewing, printed.
const brewText = `fill fill s1 malt 12 within 30 then rest else scrapped
rest hold s1 3 within 9 then look else saved
look test s1 within 8 then go else saved
go move s1 s2 12 within 31 then wash else saved
wash clean s1 within 20 then good else saved
`

// eachForm is a line of each form, and the phase that it says.
func eachForm() map[string]impl.RecPhase {
	return map[string]impl.RecPhase{
		"f fill s1 malt 5 within 10 then good else scrapped": phase("f fill s1 malt 5 10 good scrapped"),
		"m move s1 s2 7 within 4 then saved else good":       phase("m move s1 s2 7 4 saved good"),
		"h hold s1 3 within 9 then good else saved":          phase("h hold s1 . 3 9 good saved"),
		"c clean s3 within 3 then saved else scrapped":       phase("c clean s3 . 0 3 saved scrapped"),
		"t test s1 within 8 then scrapped else saved":        phase("t test s1 . 0 8 scrapped saved"),
	}
}

func checkRead(t *testing.T, text string, want ...impl.RecPhase) {
	t.Helper()
	got, fault := impl.RecParse(text)
	if fault != (impl.RecFault{}) || !slices.Equal(got, want) {
		t.Errorf("RecParse(%q) = %+v, %+v; want %+v", text, got, fault, want)
	}
	checkRecipe(t, "what is read of "+strconv.Quote(text), got, true)
}

func checkNotRead(t *testing.T, text string, line int, code int) {
	t.Helper()
	got, fault := impl.RecParse(text)
	if fault != (impl.RecFault{Line: line, Code: code}) || got != nil {
		t.Errorf("RecParse(%q) = %+v, %+v; want nothing, line %d code %d", text, got, fault, line, code)
	}
}

// checkLineBehind holds what is told of a line behind a text against a code, 0 being none.
func checkLineBehind(t *testing.T, text string, line string, code int) {
	t.Helper()
	if code != 0 {
		checkNotRead(t, text+line, strings.Count(text, "\n")+1, code)
	} else if r, fault := impl.RecParse(text + line); fault != (impl.RecFault{}) || !impl.RecOk(r) {
		t.Errorf("%q behind %q: %+v, with the fault %+v", line, text, r, fault)
	}
}

func TestConstantsOfRecipeTexts(t *testing.T) {
	for i, code := range []int{impl.RecBadWord, impl.RecBadLine, impl.RecAgain, impl.RecNoSuch, impl.RecTooMany, impl.RecNothing, impl.RecTooLong} {
		if code != i+1 {
			t.Errorf("code %d is %d", i+1, code)
		}
	}
	if impl.RecMaxText != 4000 || impl.RecMaxLines != 60 || impl.RecMaxWord != 24 {
		t.Error("the limits are not the document's")
	}
}

func TestPrintOfRecipes(t *testing.T) {
	for want, r := range map[string][]impl.RecPhase{
		brewText: brewing(),
		"a move good saved 1 within 1 then b else scrapped\nb fill scrapped good 1 within 1 then good else saved\n":          someRecipes()["called like ends"],
		"z clean s within 1 then y else good\ny clean s within 2 then x else good\nx clean s within 4 then good else good\n": someRecipes()["backwards"],
		"fill move fill move 1 within 1 then within else hold\nwithin fill then else 1000 within 1000 then hold else hold\n" +
			"hold hold hold 1 within 1 then clean else test\nclean clean clean within 1 then test else good\ntest test test within 1 then good else good\n": calledLikeForms(),
		"7 fill 8 9 10 within 11 then 12 else 12\n12 test 0 within 13 then good else saved\n": recipe("7 fill 8 9 10 11 12 12", "12 test 0 . 0 13 good saved"),
	} {
		if got := impl.RecPrint(r); got != want {
			t.Errorf("RecPrint = %q; want %q", got, want)
		}
	}
	for want, p := range eachForm() {
		if got := impl.RecPrint([]impl.RecPhase{p}); got != want+"\n" {
			t.Errorf("RecPrint = %q; want %q", got, want)
		}
	}
}

// calledLikeForms is phases, slots and stuffs that are called like words of lines.
func calledLikeForms() []impl.RecPhase {
	return recipe("fill move fill move 1 1 within hold", "within fill then else 1000 1000 hold hold", "hold hold hold . 1 1 clean test", "clean clean clean . 0 1 test good", "test test test . 0 1 good good")
}

func TestPrintOfRecipesThatAreNotOk(t *testing.T) {
	for i, r := range append(spoiltRecipes(), []impl.RecPhase{}) {
		if got := impl.RecPrint(r); got != "" {
			t.Errorf("recipe %d: RecPrint = %q", i, got)
		}
	}
	for _, other := range [][]impl.RecPhase{
		recipe("a clean s . 0 1 a good"), recipe("a clean s . 0 1 good none"), recipe("a clean s . 0 1 b good"), recipe("b clean s . 0 1 good good", "a clean s . 0 1 b good"),
		recipe("a clean s . 0 1 good good", "a clean s . 0 1 good good"), recipe("a clean s b 0 1 good good"), recipe("a test s . 1 1 good good"), recipe("a move s s 1 1 good good"), recipe("a hold s . 2 1 good good"), recipe("a fill s b 0 1 good good"),
	} {
		if got := impl.RecPrint(other); got != "" {
			t.Errorf("RecPrint(%+v) = %q", other, got)
		}
	}
	eachText(func(text string, isName bool) {
		p := phase("a fill s malt 1 1 good good")
		p.B = text
		want := choose(isName, "a fill s "+text+" 1 within 1 then good else good\n", "")
		if got := impl.RecPrint([]impl.RecPhase{p}); got != want {
			t.Errorf("RecPrint(%+v) = %q; want %q", p, got, want)
		}
	})
}

// checkPrintedAndRead asks for promise 38 of a recipe, which may be ok or not.
func checkPrintedAndRead(t *testing.T, r []impl.RecPhase) bool {
	t.Helper()
	text := impl.RecPrint(r)
	if !recipeByDefinition(r) {
		if text != "" {
			t.Errorf("RecPrint(%+v) = %q", r, text)
		}
		return false
	}
	checkRead(t, text, r...)
	if want := printByReading(r); text != want {
		t.Errorf("RecPrint = %q; want %q", text, want)
	}
	return true
}

// printByReading writes an ok recipe, form by form.
func printByReading(r []impl.RecPhase) string {
	text := ""
	for _, p := range r {
		said := map[int]string{
			1: fmt.Sprintf("%s fill %s %s %d", p.Name, p.A, p.B, p.N), 2: fmt.Sprintf("%s move %s %s %d", p.Name, p.A, p.B, p.N), 3: fmt.Sprintf("%s hold %s %d", p.Name, p.A, p.N),
			4: fmt.Sprintf("%s clean %s", p.Name, p.A), 5: fmt.Sprintf("%s test %s", p.Name, p.A),
		}[p.Kind]
		text += said + fmt.Sprintf(" within %d then %s else %s\n", p.Within, p.Then, p.Else)
	}
	return text
}

// Promise 38.
func TestParseOfPrintIsTheRecipe(t *testing.T) {
	for what, r := range someRecipes() {
		if !checkPrintedAndRead(t, r) {
			t.Errorf("%s is not ok", what)
		}
	}
	checkPrintedAndRead(t, calledLikeForms())
	for _, number := range []int{1, 2, 9, 10, 11, 99, 100, 101, 999, 1000} {
		for _, p := range eachForm() {
			p.Within, p.N = number, choose(p.N > 0, number, 0)
			checkPrintedAndRead(t, []impl.RecPhase{p})
		}
	}
	dice := rand.New(rand.NewSource(38))
	for range 3000 {
		checkPrintedAndRead(t, drawnRecipe(dice))
	}
}

func TestPrintAndParseOfRecipesOfWhichOneThingIsChanged(t *testing.T) {
	ok, not := 0, 0
	for _, from := range [][]impl.RecPhase{brewing(), forked(), calledLikeForms(), recipe("a hold s . 1 2 good saved")} {
		texts := append(textsOfAll(from), "good", "saved", "scrapped", "within", "a#", "a\nb", "a b")
		eachWithOneChange(from, texts, func(r []impl.RecPhase) {
			is := checkPrintedAndRead(t, r)
			ok += choose(is, 1, 0)
			not += choose(is, 0, 1)
		})
	}
	if ok < 500 || not < 1000 {
		t.Errorf("%d are ok, %d not", ok, not)
	}
}

func TestParseOfEachForm(t *testing.T) {
	for line, p := range eachForm() {
		checkRead(t, line, p)
		checkRead(t, line+"\n", p)
	}
	checkRead(t, brewText, brewing()...)
	checkRead(t, "a clean s within 1 then c else b\nb test s within 1 then c else c\nc hold s 1 within 1 then good else good", recipe("a clean s . 0 1 c b", "b test s . 0 1 c c", "c hold s . 1 1 good good")...)
}

func TestNamesOfLinesThatAreWordsOfForms(t *testing.T) {
	checkRead(t, impl.RecPrint(calledLikeForms()), calledLikeForms()...)
	for _, word := range []string{"fill", "move", "hold", "clean", "test", "within", "then", "else", "good", "saved", "scrapped", "1", "0", "1000", "-"} {
		isEnd := impl.RecEnd(word) != 0
		for line, p := range eachForm() {
			other := p
			other.A = word
			checkRead(t, strings.Replace(line, " "+p.A+" ", " "+word+" ", 1), other)
			other = p
			other.Name = word
			if !isEnd {
				checkRead(t, word+strings.TrimPrefix(line, p.Name), other)
			} else {
				checkNotRead(t, word+strings.TrimPrefix(line, p.Name), 1, impl.RecBadLine)
			}
			if p.B != "" {
				other = p
				other.B = word
				checkRead(t, strings.Replace(line, " "+p.B+" ", " "+word+" ", 1), other)
			}
			// A later phase of this name is gone on to as well as an end is.
			if !isEnd {
				last := phase(word + " clean " + word + " . 0 2 good good")
				other = p
				other.Then, other.Else = word, word
				text := strings.Join(append(strings.Fields(line)[:strings.Count(line, " ")-2], word, "else", word), " ")
				checkRead(t, text+"\n"+word+" clean "+word+" within 2 then good else good\n", other, last)
			}
		}
	}
}

func TestSpacesRemarksAndLinesWithoutWords(t *testing.T) {
	for line, p := range eachForm() {
		for _, text := range []string{
			" " + line, line + " ", "    " + line + "    \n", strings.ReplaceAll(line, " ", "  "), strings.ReplaceAll(" "+line+" ", " ", "       "), strings.Replace(line, " ", "     ", 1),
			line + "#", line + " #", line + "# x\n", line + " # " + line + "\n", line + "##\x00\xff\t\n", "# x\n" + line, "#" + line + "\n" + line + "\n#" + line, "\n\n" + line + "\n\n", line + "\n\n", line + "\n \n#\n   #\n", " \n" + line, line + "\n" + " ",
			line + "#" + strings.Repeat("w", 1000), line + " # " + strings.Repeat("w ", 500),
		} {
			checkRead(t, text, p)
		}
		checkNotRead(t, "\n# x\n\n"+line+" x\n\n", 4, impl.RecBadLine)
		checkNotRead(t, "#"+line+"\n", 0, impl.RecNothing)
	}
	checkRead(t, strings.TrimSuffix(brewText, "\n"), brewing()...)
	checkRead(t, brewText+"\n", brewing()...)
	checkRead(t, brewText+"\n\n\n", brewing()...)
	checkRead(t, strings.ReplaceAll(brewText, "\n", " # of use\n\n  \n"), brewing()...)
	checkRead(t, strings.ReplaceAll(brewText, " ", "    "), brewing()...)
}

func TestTextsWithoutAPhase(t *testing.T) {
	for _, text := range []string{"", "\n", "\n\n", " ", "   \n  ", "#", "# x\n\n", "#\x00\xff\n#", " # f fill s1 malt 5 within 10 then good else scrapped\n", strings.Repeat("\n", impl.RecMaxLines), strings.Repeat(" ", impl.RecMaxText), "#" + strings.Repeat("x", impl.RecMaxText-1)} {
		checkNotRead(t, text, 0, impl.RecNothing)
	}
}

func TestBytesOfRecipeLines(t *testing.T) {
	for c := range 256 {
		b := string([]byte{byte(c)})
		isNone := c < 32 && c != '\n' || c > 126
		for line, p := range eachForm() {
			if c != '\n' {
				checkRead(t, line+"#"+b, p)
				checkRead(t, line+" # "+b+" x\n", p)
			}
			at := len(line) / 2
			for _, text := range []string{b + line, line + b, line + " " + b, b + " " + line, line[:at] + b + line[at:], line + b + "#"} {
				checkByReading(t, text)
				if isNone {
					checkNotRead(t, text, 1, impl.RecBadWord)
					checkNotRead(t, brewText+"\n"+text+"\n", 7, impl.RecBadWord)
				}
			}
		}
		if isNone {
			for _, text := range []string{b, b + b, "x" + b, b + "x", " " + b + " ", b + "#", "x x" + b + "x"} {
				checkNotRead(t, text, 1, impl.RecBadWord)
			}
		}
	}
	for _, text := range []string{"é", "a é", "€ b", "a\u00a0b", "a\u2003b", "\ufffd", "\U0001f37a", "\xc3", "\xe2\x82", "\xed\xa0\x80", "\xc0\xa0", "\xc0\xa3", "\ufeffa", "a\r", "a\vb", "a\fb", "\x85"} {
		checkNotRead(t, text, 1, impl.RecBadWord)
		checkNotRead(t, brewText+text, 6, impl.RecBadWord)
	}
}

func TestWordsOfRecipeLinesAsLongAsTheyMayBe(t *testing.T) {
	longest := strings.Repeat("w", impl.RecMaxWord)
	for _, line := range []string{longest, " " + longest + " ", longest + "#x", longest + " " + longest, "f " + longest, "f fill " + longest, "f test s1 within 4 then good else " + longest, "f test s1 within " + strings.Repeat("1", impl.RecMaxWord) + " then good else good"} {
		checkLineBehind(t, brewText, line, impl.RecBadLine)
	}
	for _, line := range []string{longest + "x", " " + longest + "x ", longest + "x#", longest + " " + longest + "x", longest + longest, "f " + longest + "x", "f test s1 within 4 then good else good x" + longest, "f test s1 within 4 then good else good " + longest + "x # x", strings.Repeat("w", 3000)} {
		checkLineBehind(t, brewText, line, impl.RecBadWord)
	}
	for line, p := range eachForm() {
		checkRead(t, line+" #"+longest+"x", p)
	}
}

func TestTooFewAndTooManyWordsOfRecipeLines(t *testing.T) {
	for line := range eachForm() {
		words := strings.Fields(line)
		for n := 1; n < len(words); n++ {
			checkNotRead(t, strings.Join(words[:n], " "), 1, impl.RecBadLine)
			checkNotRead(t, strings.Join(words[n:], " "), 1, impl.RecBadLine)
		}
		for at := range words {
			checkNotRead(t, strings.Join(slices.Delete(slices.Clone(words), at, at+1), " "), 1, impl.RecBadLine)
			for _, more := range []string{words[at], "x", "5", "within", "good"} {
				checkNotRead(t, strings.Join(slices.Insert(slices.Clone(words), at, more), " "), 1, impl.RecBadLine)
			}
			// One word more can make another form of it.
			for _, more := range []string{"fill", "move", "hold", "clean", "test"} {
				checkByReading(t, strings.Join(slices.Insert(slices.Clone(words), at, more), " "))
			}
		}
		// More words than a line of a plant may have are still words.
		for _, many := range []int{1, 2, 5, 6, 7, 8, 17, 100, 900} {
			checkNotRead(t, line+strings.Repeat(" x", many), 1, impl.RecBadLine)
			checkNotRead(t, line+strings.Repeat(" x", many)+" \x01", 1, impl.RecBadWord)
			checkNotRead(t, strings.Repeat("x ", many)+line, 1, impl.RecBadLine)
		}
		checkNotRead(t, line+" "+line, 1, impl.RecBadLine)
		tail := " " + strings.Join(words[len(words)-6:], " ")
		checkNotRead(t, line+tail, 1, impl.RecBadLine)
	}
	for _, line := range []string{"x", "fill", "f fill", "f fill s1", "within", "within 4 then good else good", "f within 4 then good else good", "f test within 4 then good else good", "f clean within 4 then good else good", "f hold s1 within 4 then good else good", "f hold 3 within 4 then good else good", "f hold s1 s2 3 within 4 then good else good", "f fill s1 5 within 4 then good else good", "f fill s1 malt within 4 then good else good", "f move s1 5 within 4 then good else good", "f move s1 s2 within 4 then good else good", "f move s1 s2 s3 5 within 4 then good else good", "f clean s1 s2 within 4 then good else good", "f clean s1 5 within 4 then good else good", "f test s1 5 within 4 then good else good"} {
		checkLineBehind(t, brewText, line, impl.RecBadLine)
	}
}

func TestWordsOfNoForm(t *testing.T) {
	for line := range eachForm() {
		words := strings.Fields(line)
		for _, other := range []string{"Fill", "FILL", "fil", "fills", "mov", "moves", "held", "holds", "cleans", "clea", "tests", "tes", "within", "then", "else", "good", "x", "1", "-", "fill,", "stuff", "vessel", "f", "s1"} {
			changed := slices.Clone(words)
			changed[1] = other
			checkNotRead(t, strings.Join(changed, " "), 1, impl.RecBadLine)
		}
		for at := range words {
			for _, kind := range []string{"fill", "move", "hold", "clean", "test", "within", "then", "else"} {
				changed := slices.Clone(words)
				changed[at] = kind
				checkByReading(t, strings.Join(changed, " "))
			}
			for other := range words {
				changed := slices.Clone(words)
				changed[at], changed[other] = changed[other], changed[at]
				checkByReading(t, strings.Join(changed, " "))
			}
		}
	}
}

func TestTails(t *testing.T) {
	for line := range eachForm() {
		words := strings.Fields(line)
		head := strings.Join(words[:len(words)-6], " ")
		checkLineBehind(t, "", head+" within 9 then good else saved", 0)
		for _, tail := range []string{
			"", "within", "within 9", "within 9 then", "within 9 then good", "within 9 then good else", "within 9 else saved then good", "then good else saved within 9", "then good within 9 else saved", "else saved within 9 then good",
			"9 within good then saved else", "within 9 then good then saved", "within 9 else good else saved", "within 9 within good else saved", "then 9 within good else saved", "within 9 good saved", "9 then good else saved", "within then good else saved",
			"Within 9 then good else saved", "within 9 Then good else saved", "within 9 then good Else saved", "withi 9 then good else saved", "withins 9 then good else saved", "within 9 the good else saved", "within 9 thens good else saved", "within 9 then good els saved", "within 9 then good elses saved",
			"within 9 then good else saved else saved", "within 9 then good else saved x", "x within 9 then good else saved", "within 9, then good else saved", "within=9 then good else saved", "in 9 then good else saved", "within good then 9 else saved", "within 9 9 then good else saved", "within 9 then good saved else",
		} {
			checkNotRead(t, head+" "+tail, 1, impl.RecBadLine)
			checkByReading(t, brewText+head+" "+tail)
		}
	}
}

func TestNumbersOfRecipeLines(t *testing.T) {
	forms := []struct{ ahead, behind string }{
		{"a fill s malt ", " within 1000 then good else good"}, {"a move s r ", " within 1000 then good else good"}, {"a hold s ", " within 1000 then good else good"},
		{"a fill s malt 1 within ", " then good else good"}, {"a move s r 1 within ", " then good else good"}, {"a hold s 1 within ", " then good else good"}, {"a clean s within ", " then good else good"}, {"a test s within ", " then good else good"},
	}
	for _, form := range forms {
		for number := range 10000 {
			code := choose(number >= 1 && number <= 1000, 0, impl.RecBadLine)
			checkLineBehind(t, "", form.ahead+strconv.Itoa(number)+form.behind, code)
		}
		for _, number := range []string{"", "10000", "99999", "00000", "01000", "00001", "04", "00", "01", "0001", "010", "000", "0999", "+4", "-4", "-0", "+0", "+1000", "4.", "4.0", ".4", "1e2", "1_0", "0x4", "0b1", "a", "4a", "a4", "-", "--4", "1-", "1,0", "18446744073709551617", "9223372036854775808", strings.Repeat("0", impl.RecMaxWord), strings.Repeat("9", impl.RecMaxWord)} {
			checkNotRead(t, form.ahead+number+form.behind, 1, impl.RecBadLine)
		}
		for c := 33; c <= 126; c++ {
			isDigit := c >= '0' && c <= '9'
			b := string([]byte{byte(c)})
			for text, isNumber := range map[string]bool{b: isDigit && c != '0', "1" + b: isDigit, b + "1": isDigit && c != '0', "1" + b + "1": isDigit} {
				checkLineBehind(t, "", form.ahead+text+form.behind, choose(isNumber, 0, impl.RecBadLine))
			}
		}
	}
	for _, within := range []int{1, 2, 3, 500, 999, 1000} {
		for _, n := range []int{0, 1, 2, 3, 4, 499, 500, 501, 998, 999, 1000, 1001} {
			line := fmt.Sprintf("a hold s %d within %d then good else good", n, within)
			checkLineBehind(t, "", line, choose(n >= 1 && n <= within, 0, impl.RecBadLine))
		}
	}
	checkRead(t, "a fill s r 1000 within 1 then b else good\nb hold s 1000 within 1000 then good else good", recipe("a fill s r 1000 1 b good", "b hold s . 1000 1000 good good")...)
}

// Each of what is asked of a phase alone, just not so, is a fault of its line.
func TestLinesOfPhasesThatAreNotOkAlone(t *testing.T) {
	for _, line := range []string{
		"good clean s within 1 then good else good", "saved clean s within 1 then good else good", "scrapped test s within 1 then good else good", "A clean s within 1 then good else good", "abcdefghi clean s within 1 then good else good", "a_b clean s within 1 then good else good", "a! test s within 1 then good else good",
		"a clean S within 1 then good else good", "a clean abcdefghi within 1 then good else good", "a test s, within 1 then good else good", "a fill S malt 1 within 1 then good else good", "a fill s Malt 1 within 1 then good else good", "a fill s abcdefghi 1 within 1 then good else good", "a move s R 1 within 1 then good else good",
		"a move s s 1 within 1 then good else good", "a move good good 1 within 1 then good else good", "a fill s malt 0 within 1 then good else good", "a fill s malt 1001 within 1 then good else good", "a move s r 0 within 1 then good else good", "a move s r 1001 within 1 then good else good",
		"a hold s 0 within 1 then good else good", "a hold s 2 within 1 then good else good", "a hold s 1001 within 1000 then good else good", "a clean s within 0 then good else good", "a clean s within 1001 then good else good", "a test s within 9999 then good else good", "a fill s malt 1 within 0 then good else good",
		"a clean s within 1 then Good else good", "a clean s within 1 then good else Good", "a clean s within 1 then abcdefghi else good", "a clean s within 1 then good else abcdefghi", "a clean s within 1 then . else good", "a clean s within 1 then good else \"\"",
	} {
		checkNotRead(t, line, 1, impl.RecBadLine)
		checkNotRead(t, brewText+"\n"+line, 7, impl.RecBadLine)
		checkByReading(t, line)
	}
	// To be filled with what is called as the slot is, is no fault.
	checkRead(t, "a fill s s 1 within 1 then good else good", phase("a fill s s 1 1 good good"))
	for _, line := range []string{"%s fill s malt 1 within 2 then good else good", "x fill %s malt 1 within 2 then good else good", "x fill s %s 1 within 2 then good else good", "x move s-- %s 1 within 2 then good else good", "x hold %s 1 within 2 then good else good", "x test s within 2 then %s else good", "x clean s within 2 then good else %s"} {
		eachText(func(text string, _ bool) { checkByReading(t, fmt.Sprintf(line, text)) })
		for _, text := range nearlyEnds() {
			checkByReading(t, fmt.Sprintf(line, text))
		}
	}
}

func TestNamesThatAnEarlierLineHasSaid(t *testing.T) {
	for _, name := range []string{"fill", "rest", "look", "go", "wash"} {
		for line, p := range eachForm() {
			checkLineBehind(t, brewText, name+strings.TrimPrefix(line, p.Name), impl.RecAgain)
			checkLineBehind(t, brewText+"\n\n#\n", " "+name+"  "+strings.TrimPrefix(line, p.Name)+" # x", impl.RecAgain)
		}
	}
	for _, name := range []string{"s1", "malt", "fil", "fills", "rest-", "within", "x"} {
		for line, p := range eachForm() {
			checkLineBehind(t, brewText, name+strings.TrimPrefix(line, p.Name), 0)
		}
	}
	lines := strings.SplitAfter(brewText, "\n")[:5]
	for _, again := range lines {
		checkLineBehind(t, brewText, again, impl.RecAgain)
	}
}

func TestWhereToLinesGoOn(t *testing.T) {
	names := []string{"a", "b", "c"}
	for at := range names {
		for _, to := range []string{"a", "b", "c", "good", "saved", "scrapped", "none", "s", "clean", "goods"} {
			for _, tail := range []string{"then " + to + " else good", "then good else " + to, "then " + to + " else " + to} {
				text := ""
				for i, name := range names {
					text += name + " clean s within 1 " + choose(i == at, tail, "then good else saved") + "\n"
				}
				if impl.RecEnd(to) != 0 || slices.Index(names, to) > at {
					checkLineBehind(t, text, "", 0)
				} else {
					checkNotRead(t, text, at+1, impl.RecNoSuch)
					checkNotRead(t, "\n# x\n"+strings.ReplaceAll(text, "\n", "\n\n"), 2*at+3, impl.RecNoSuch)
				}
			}
		}
	}
	checkNotRead(t, "a clean s within 1 then a else good", 1, impl.RecNoSuch)
	checkNotRead(t, "a clean s within 1 then good else a", 1, impl.RecNoSuch)
}

// lineOf is a line of a phase of this name that goes on to ends.
func lineOf(name string) string {
	return name + " test s within 4 then good else saved\n"
}

func TestAsManyPhasesAsThereMayBe(t *testing.T) {
	full := ""
	for i, name := range numbered("p", 14) {
		if i < impl.RecMaxPhases {
			full += lineOf(name)
			checkLineBehind(t, full, "", 0)
			checkLineBehind(t, "\n"+full, "\n", 0)
		} else {
			checkLineBehind(t, full, lineOf(name), impl.RecTooMany)
			checkLineBehind(t, full+"\n", lineOf(name)+lineOf("more"), impl.RecTooMany)
			checkLineBehind(t, full+"# x\n", lineOf(name)+"\x01", impl.RecTooMany)
		}
	}
	checkLineBehind(t, full, "# "+lineOf("more"), 0)
	checkLineBehind(t, impl.RecPrint(longest()), lineOf("more"), impl.RecTooMany)
	checkRead(t, impl.RecPrint(longest()), longest()...)
}

func TestRecipeTextsAsLongAsTheyMayBe(t *testing.T) {
	remark := func(text string, size int) string {
		return text + "#" + strings.Repeat("x", size-len(text)-1)
	}
	checkRead(t, remark(brewText, impl.RecMaxText), brewing()...)
	checkRead(t, remark(brewText, impl.RecMaxText-1)+"\n", brewing()...)
	checkRead(t, strings.Repeat(" ", impl.RecMaxText-len(brewText))+brewText, brewing()...)
	checkNotRead(t, remark(brewText+"what\n", impl.RecMaxText), 6, impl.RecBadLine)
	checkNotRead(t, strings.Repeat("w", impl.RecMaxText), 1, impl.RecBadWord)
	checkNotRead(t, strings.Repeat("é", impl.RecMaxText/2), 1, impl.RecBadWord)
	checkNotRead(t, strings.Repeat("w ", impl.RecMaxText/2), 1, impl.RecBadLine)
	for _, text := range []string{
		remark(brewText, impl.RecMaxText+1), remark(brewText, impl.RecMaxText) + "\n", strings.Repeat(" ", impl.RecMaxText+1), strings.Repeat("\n", impl.RecMaxText+1), strings.Repeat("é", impl.RecMaxText/2) + "x", strings.Repeat(brewText, 1<<14),
		// Ahead of each other code.
		remark("\x01\n", impl.RecMaxText+1), remark("what\n", impl.RecMaxText+1), remark(lineOf("a")+lineOf("a"), impl.RecMaxText+1), remark("a clean s within 1 then a else a\n", impl.RecMaxText+1), remark(impl.RecPrint(longest())+lineOf("a"), impl.RecMaxText+1), remark("", impl.RecMaxText+1),
	} {
		if r, fault := impl.RecParse(text); fault != (impl.RecFault{Code: impl.RecTooLong}) || r != nil {
			t.Errorf("a text of %d bytes: %+v, with the fault %+v", len(text), r, fault)
		}
	}
}

func TestRecipeTextsOfAsManyLinesAsTheyMayBe(t *testing.T) {
	ahead := strings.Repeat("\n", impl.RecMaxLines-1)
	line := strings.TrimSuffix(lineOf("a"), "\n")
	for _, text := range []string{ahead + line, ahead + line + "\n", line + "\n" + ahead, line + ahead + " #", strings.Repeat("#\n", impl.RecMaxLines-1) + line + "\n", line + "\n" + strings.Repeat(" \n", impl.RecMaxLines-2) + "# x"} {
		checkRead(t, text, phase("a test s . 0 4 good saved"))
	}
	checkNotRead(t, ahead+"what", impl.RecMaxLines, impl.RecBadLine)
	checkNotRead(t, ahead+"\x01\n", impl.RecMaxLines, impl.RecBadWord)
	checkNotRead(t, ahead+"a test s within 4 then none else good\n", impl.RecMaxLines, impl.RecNoSuch)
	checkNotRead(t, ahead+"\n", 0, impl.RecNothing)
	for _, text := range []string{
		ahead + "\n\n", ahead + "\n ", ahead + "\n#", ahead + "\n" + line, line + "\n" + ahead + "\n", strings.Repeat("#\n", impl.RecMaxLines+1), strings.Repeat("\n", 2*impl.RecMaxLines),
		"\x01\n" + ahead + " ", "what\n" + ahead + "\n", line + "\n" + line + "\n" + ahead, "a test s within 4 then a else a\n" + ahead + "\n", impl.RecPrint(longest()) + line + ahead,
	} {
		checkNotRead(t, text, 0, impl.RecTooLong)
	}
}

func TestRecipeLinesOfTwoFaults(t *testing.T) {
	full := impl.RecPrint(longest())
	for line, code := range map[string]int{
		// A word that is none, in a line of no form, of a phase that is not ok, of a name that is said already, that goes on to nothing, that is one too many.
		"what \x01": impl.RecBadWord, "what\xff x": impl.RecBadWord, "a test s within 0 then good else good\x01": impl.RecBadWord, "p10 test s within 4 then good else good \x7f": impl.RecBadWord, "p10 test \x00 within 4 then good else good": impl.RecBadWord,
		"a test s within 4 then none else p10\x09": impl.RecBadWord, "a test s within 4 then good else good \x80": impl.RecBadWord, "p10 " + strings.Repeat("w", 25): impl.RecBadWord,
		// A line that is none, of a name that is said already, that goes on to nothing, that is one too many.
		"p10": impl.RecBadLine, "p10 test s within 0 then good else good": impl.RecBadLine, "p10 move s s 1 within 1 then good else good": impl.RecBadLine, "p11 hold s 2 within 1 then p10 else none": impl.RecBadLine, "a hold s 2 within 1 then p10 else none": impl.RecBadLine,
		"a test s within 4 then p10 else none x": impl.RecBadLine, "a test s within 4 then p10 else": impl.RecBadLine, "what": impl.RecBadLine, "a test s within 1001 then good else good": impl.RecBadLine,
		// A name that is said already, that goes on to nothing, that is one too many.
		"p10 test s within 4 then good else good": impl.RecAgain, "p21 test s within 4 then none else good": impl.RecAgain, "p15 test s within 4 then good else p15": impl.RecAgain,
		// One too many, that goes on to nothing.
		"a test s within 4 then none else good": impl.RecTooMany, "a test s within 4 then good else a": impl.RecTooMany, "a test s within 4 then p10 else p21": impl.RecTooMany,
	} {
		checkLineBehind(t, full, line, code)
		checkLineBehind(t, full+"# x\n\n", line+"\n"+line, code)
		checkByReading(t, full+line)
	}
	for line, code := range map[string]int{"what\x01": impl.RecBadWord, "fill clean s": impl.RecBadLine, "fill clean s within 1 then fill else none": impl.RecAgain, "x clean s within 1 then x else none": impl.RecNoSuch, "x clean s within 1 then x else none\x01": impl.RecBadWord, "x clean S within 1 then x else none": impl.RecBadLine} {
		checkLineBehind(t, brewText, line, code)
	}
}

func TestTwoRecipeLinesWithAFault(t *testing.T) {
	noSuch := "x test s within 4 then none else good"
	wrong := map[string]int{"\x01": impl.RecBadWord, "what": impl.RecBadLine, "p test s within 4 then good else good": impl.RecAgain}
	ahead := lineOf("p")
	for first, code := range wrong {
		for second := range wrong {
			checkNotRead(t, ahead+first+"\n"+second, 2, code)
			checkNotRead(t, ahead+"\n"+first+"\n\n"+second+"\n", 3, code)
		}
		// What shows only when all is read comes last, wherever it stands.
		checkNotRead(t, ahead+noSuch+"\n"+first+"\n", 3, code)
		checkNotRead(t, ahead+first+"\n"+noSuch+"\n", 2, code)
		checkNotRead(t, noSuch+"\n"+ahead+"\n\n"+first, 5, code)
		// Twelve phases, one of which goes on to nothing, and one more.
		many := noSuch + "\n"
		for _, name := range numbered("p", impl.RecMaxPhases-1) {
			many += lineOf(name)
		}
		checkNotRead(t, many, 1, impl.RecNoSuch)
		checkNotRead(t, many+lineOf("more"), 13, impl.RecTooMany)
		checkNotRead(t, many+lineOf("more")+first, 13, impl.RecTooMany)
		if first != "p test s within 4 then good else good" {
			checkNotRead(t, many+first+"\n"+lineOf("more"), 13, code)
		}
	}
	checkNotRead(t, noSuch+"\n"+strings.Replace(noSuch, "x", "y", 1)+"\n", 1, impl.RecNoSuch)
	checkNotRead(t, ahead+"\n"+noSuch+"\n# x\n"+strings.Replace(noSuch, "x", "y", 1)+"\n", 3, impl.RecNoSuch)
	// The second of these is told only when the first one goes on to it.
	checkNotRead(t, "x test s within 4 then y else good\ny test s within 4 then x else good\n", 2, impl.RecNoSuch)
	checkNotRead(t, "x test s within 4 then good else y\ny test s within 4 then good else y\nz test s within 4 then none else good\n", 2, impl.RecNoSuch)
}

// recForms is the forms of lines, each as the pattern of one whose words have one space between.
var recForms = []struct {
	kind int
	form *regexp.Regexp
}{
	{1, regexp.MustCompile(`^(?P<Name>[^ ]+) fill (?P<A>[^ ]+) (?P<B>[^ ]+) (?P<N>0|[1-9][0-9]{0,3}) within (?P<Within>0|[1-9][0-9]{0,3}) then (?P<Then>[^ ]+) else (?P<Else>[^ ]+)$`)},
	{2, regexp.MustCompile(`^(?P<Name>[^ ]+) move (?P<A>[^ ]+) (?P<B>[^ ]+) (?P<N>0|[1-9][0-9]{0,3}) within (?P<Within>0|[1-9][0-9]{0,3}) then (?P<Then>[^ ]+) else (?P<Else>[^ ]+)$`)},
	{3, regexp.MustCompile(`^(?P<Name>[^ ]+) hold (?P<A>[^ ]+) (?P<N>0|[1-9][0-9]{0,3}) within (?P<Within>0|[1-9][0-9]{0,3}) then (?P<Then>[^ ]+) else (?P<Else>[^ ]+)$`)},
	{4, regexp.MustCompile(`^(?P<Name>[^ ]+) clean (?P<A>[^ ]+) within (?P<Within>0|[1-9][0-9]{0,3}) then (?P<Then>[^ ]+) else (?P<Else>[^ ]+)$`)},
	{5, regexp.MustCompile(`^(?P<Name>[^ ]+) test (?P<A>[^ ]+) within (?P<Within>0|[1-9][0-9]{0,3}) then (?P<Then>[^ ]+) else (?P<Else>[^ ]+)$`)},
}

// saidInLine is the phase that a line of one of the forms says, by the names of the pattern's parts.
func saidInLine(line string) (impl.RecPhase, bool) {
	for _, f := range recForms {
		parts := f.form.FindStringSubmatch(line)
		if parts == nil {
			continue
		}
		p := impl.RecPhase{Kind: f.kind}
		for i, name := range f.form.SubexpNames() {
			if name == "" {
				continue
			}
			field := reflect.ValueOf(&p).Elem().FieldByName(name)
			if number, err := strconv.Atoi(parts[i]); field.Kind() == reflect.Int && err == nil {
				field.SetInt(int64(number))
			} else {
				field.SetString(parts[i])
			}
		}
		return p, true
	}
	return impl.RecPhase{}, false
}

// recLineByReading is which of the codes 1, 2, 3 and 5 a line has behind some phases, and the phase that it says; no code and no phase, if it counts for nothing.
func recLineByReading(line string, ahead []impl.RecPhase) (codes []int, said []impl.RecPhase) {
	line, _, _ = strings.Cut(line, "#")
	words := strings.Split(line, " ")
	words = slices.DeleteFunc(words, func(word string) bool { return word == "" })
	isBad := slices.ContainsFunc([]byte(line), func(b byte) bool { return b < 32 || b > 126 })
	if isBad || slices.ContainsFunc(words, func(word string) bool { return len(word) > 24 }) {
		return []int{1}, nil
	}
	if len(words) == 0 {
		return nil, nil
	}
	p, ok := saidInLine(strings.Join(words, " "))
	if !ok || !phaseByDefinition(p) {
		codes = append(codes, 2)
	}
	if slices.ContainsFunc(ahead, func(other impl.RecPhase) bool { return other.Name == words[0] }) {
		codes = append(codes, 3)
	}
	if len(ahead) == 12 {
		codes = append(codes, 5)
	}
	return codes, []impl.RecPhase{p}
}

// recipeTextByReading reads the chapter a second time.
func recipeTextByReading(text string) ([]impl.RecPhase, impl.RecFault) {
	lines := strings.Split(text, "\n")
	if lines[len(lines)-1] == "" {
		lines = lines[:len(lines)-1]
	}
	if len(text) > 4000 || len(lines) > 60 {
		return nil, impl.RecFault{Code: 7}
	}
	var r []impl.RecPhase
	var lineOfPhase []int
	for i, line := range lines {
		codes, said := recLineByReading(line, r)
		if len(codes) > 0 {
			return nil, impl.RecFault{Line: i + 1, Code: slices.Min(codes)}
		}
		for _, p := range said {
			r, lineOfPhase = append(r, p), append(lineOfPhase, i+1)
		}
	}
	ends := []string{"good", "saved", "scrapped"}
	for i, p := range r {
		to := slices.Clone(ends)
		for _, later := range r[i+1:] {
			to = append(to, later.Name)
		}
		if !slices.Contains(to, p.Then) || !slices.Contains(to, p.Else) {
			return nil, impl.RecFault{Line: lineOfPhase[i], Code: 4}
		}
	}
	if len(r) == 0 {
		return nil, impl.RecFault{Code: 6}
	}
	return r, impl.RecFault{}
}

// checkByReading holds a text against the second reading, and against promise 38; it gives the code.
func checkByReading(t *testing.T, text string) int {
	t.Helper()
	want, fault := recipeTextByReading(text)
	if fault.Code != 0 {
		checkNotRead(t, text, fault.Line, fault.Code)
		return fault.Code
	}
	checkRead(t, text, want...)
	checkPrintedAndRead(t, want)
	return 0
}

func TestParseOfAllShortRecipeTexts(t *testing.T) {
	lines := []string{"\n", "# x\n", "a test s within 4 then b else good\n", "a clean s within 2 then good else saved\n", "b move s r 9 within 1 then saved else c\n", "c hold s 1 within 1 then good else scrapped\n", "c fill s malt 5 within 3 then a else none\n", "b hold s 2 within 1 then good else c\n", "a what\n", "a\x01\n", "c clean s within 1 then good else good"}
	counts := map[int]int{}
	eachLine(lines, 4, func(text string) { counts[checkByReading(t, text)]++ })
	for _, code := range []int{0, 1, 2, 3, 4, 6} {
		if counts[code] < 20 {
			t.Errorf("code %d was met %d times", code, counts[code])
		}
	}
}

func TestParseOfLinesBehindManyPhases(t *testing.T) {
	lines := []string{"", "# x", " ", "\x01", "what", lineOf("a"), lineOf("b"), lineOf("p10"), lineOf("p15"), "a test s within 0 then good else good", "a test s within 4 then b else good", "b test s within 4 then a else b", "p10 test s within 4 then none else b", "b move s s 4 within 4 then good else good", "a hold s 4 within 4 then b else p10"}
	for many := 9; many <= impl.RecMaxPhases; many++ {
		for _, open := range []string{"good", "none", "a"} {
			ahead := "p9 test s within 4 then " + open + " else good\n"
			for _, name := range numbered("p", many-1) {
				ahead += lineOf(name)
			}
			for _, first := range lines {
				for _, second := range lines {
					checkByReading(t, ahead+strings.TrimSuffix(first, "\n")+"\n"+second)
				}
			}
		}
	}
}

func TestParseOfRecipesThatLoseALine(t *testing.T) {
	for _, r := range someRecipes() {
		lines := strings.SplitAfter(impl.RecPrint(r), "\n")
		for i := range lines {
			checkByReading(t, strings.Join(slices.Delete(slices.Clone(lines), i, i+1), ""))
			for j := range lines {
				moved := slices.Clone(lines)
				moved[i], moved[j] = moved[j], moved[i]
				checkByReading(t, strings.Join(moved, ""))
				checkByReading(t, strings.Join(slices.Insert(moved, i, lines[j]), ""))
			}
		}
	}
}

// drawnText changes some pieces of the text of a drawn recipe.
func drawnText(dice *rand.Rand) string {
	text := impl.RecPrint(drawnRecipe(dice))
	pieces := []string{" ", "  ", "\n", "#", "\n\n", "\x00", "\xff", "a", "0", "1", "-", "good", " good ", "then", " within ", " p1", "p1 ", "within 0", "1000", "x test s within 1 then good else good\n", strings.Repeat("w", 25)}
	for range dice.Intn(4) {
		from := dice.Intn(len(text) + 1)
		to := from + dice.Intn(choose(dice.Intn(3) == 0, 30, 3))
		if dice.Intn(2) == 0 {
			to = from
		}
		text = text[:from] + pieces[dice.Intn(len(pieces))] + text[min(to, len(text)):]
	}
	if dice.Intn(4) == 0 {
		lines := strings.SplitAfter(text, "\n")
		text += choose(strings.HasSuffix(text, "\n"), "", "\n") + lines[dice.Intn(len(lines))]
	}
	if dice.Intn(3) == 0 {
		lines := strings.SplitAfter(text, "\n")
		dice.Shuffle(len(lines), func(i, j int) { lines[i], lines[j] = lines[j], lines[i] })
		text = strings.Join(lines, "")
	}
	if dice.Intn(8) == 0 {
		for i := range 14 {
			text += lineOf("q" + strconv.Itoa(i))
		}
	}
	switch dice.Intn(60) {
	case 0:
		text = strings.ReplaceAll("\n"+text, "\n", "\n# ")
	case 1:
		text = strings.Repeat("\n", 45+dice.Intn(20)) + text
	case 2:
		text += strings.Repeat(" ", max(0, 3995+dice.Intn(10)-len(text)))
	}
	return text
}

func TestParseOfDrawnTexts(t *testing.T) {
	dice := rand.New(rand.NewSource(43))
	counts := map[int]int{}
	for range 20000 {
		counts[checkByReading(t, drawnText(dice))]++
	}
	for code, least := range []int{1000, 500, 1000, 100, 100, 100, 50, 100} {
		if counts[code] < least {
			t.Errorf("code %d was met %d times", code, counts[code])
		}
	}
}

func TestReadRecipesAreNewMemory(t *testing.T) {
	for what, r := range someRecipes() {
		text := strings.Clone(impl.RecPrint(r))
		was := strings.Clone(text)
		first, _ := impl.RecParse(text)
		second, _ := impl.RecParse(text)
		checkOwnMemory(t, what, first, text)
		checkOwnMemory(t, what, second, text, first)
		checkOwnLists(t, what, second, first)
		for _, name := range textsIn(first) {
			if within(name, text) {
				t.Errorf("%s: %q lies in the text", what, name)
			}
		}
		clear(first[:cap(first)])
		if !slices.Equal(second, r) {
			t.Errorf("%s: a second answer became %+v", what, second)
		}
		checkRead(t, text, r...)
		if text != was {
			t.Errorf("%s: the text became %q", what, text)
		}
	}
	p := phase("a fill slot malt 5 10 good saved")
	for _, text := range []*string{&p.Name, &p.A, &p.B, &p.Then, &p.Else} {
		*text = strings.Clone(*text)
	}
	printed, again := impl.RecPrint([]impl.RecPhase{p}), impl.RecPrint([]impl.RecPhase{p})
	for _, text := range textsIn(p) {
		if within(text, printed) || within(printed, text) {
			t.Error("what is printed lies in the recipe")
		}
	}
	if within(printed, again) {
		t.Error("what is printed twice is printed once")
	}
}

func TestPrintedRecipesAreNotWrittenInto(t *testing.T) {
	all := append(spoiltRecipes(), []impl.RecPhase{})
	for _, r := range someRecipes() {
		all = append(all, r)
	}
	for i, r := range all {
		one := withRoom(asking3{Recipe: r})
		was := withWhatIsBehind(one)
		first := impl.RecPrint(one.Recipe)
		if again := impl.RecPrint(one.Recipe); again != first || first != impl.RecPrint(r) {
			t.Errorf("%d: RecPrint was %q and is %q", i, first, again)
		}
		if !reflect.DeepEqual(withWhatIsBehind(one), was) {
			t.Errorf("%d: the recipe became %+v", i, withWhatIsBehind(one))
		}
	}
}

func TestVeryLongRecipeTexts(t *testing.T) {
	for _, text := range []string{strings.Repeat("\n", 1<<22), strings.Repeat(" ", 1<<22), strings.Repeat("#", 1<<22), strings.Repeat("w", 1<<22), strings.Repeat("\xff", 1<<22), strings.Repeat(lineOf("a"), 1<<16)} {
		if r, fault := impl.RecParse(text); fault != (impl.RecFault{Code: impl.RecTooLong}) || r != nil {
			t.Errorf("a text of %d bytes: %d phases, with the fault %+v", len(text), len(r), fault)
		}
	}
	long := slices.Repeat(recipe("a clean s . 0 1 good good"), 200000)
	if got := impl.RecPrint(long); got != "" {
		t.Errorf("RecPrint is of %d bytes", len(got))
	}
	named := brewing()
	named[2].A = strings.Repeat("s", 1<<22)
	if got := impl.RecPrint(named); got != "" {
		t.Errorf("RecPrint is of %d bytes", len(got))
	}
}

// What one call was given must not be seen in the next one, nor in one beside it.
func TestRecipeTextsKeepNothing(t *testing.T) {
	all := someRecipes()
	var callers sync.WaitGroup
	for range 8 {
		callers.Go(func() {
			for _, r := range all {
				checkRead(t, printByReading(r), r...)
				checkNotRead(t, brewText+"what", 6, impl.RecBadLine)
				checkPrintedAndRead(t, r)
				checkNotRead(t, brewText+lineOf("rest"), 6, impl.RecAgain)
				checkNotRead(t, "", 0, impl.RecNothing)
				checkRead(t, lineOf("rest"), phase("rest test s . 0 4 good saved"))
				checkNotRead(t, impl.RecPrint(longest())+lineOf("a"), 13, impl.RecTooMany)
				checkNotRead(t, "a clean s within 1 then rest else good", 1, impl.RecNoSuch)
				checkNotRead(t, strings.Repeat("\n", impl.RecMaxLines+1), 0, impl.RecTooLong)
			}
		})
	}
	callers.Wait()
}

func FuzzRecParse(f *testing.F) {
	f.Add(brewText)
	f.Add(impl.RecPrint(longest()))
	f.Add(impl.RecPrint(calledLikeForms()))
	f.Add("a test s within 4 then b else good\n\n# x\nb hold s 04 within 4 then \xff")
	f.Fuzz(func(t *testing.T, text string) { checkByReading(t, text) })
}
