package tests

import (
	"math"
	"strconv"
	"strings"
	"sync"
	"testing"

	"loop.example/malthouse/impl"
)

// phase reads a phase: its Name, its kind's word, A, B, N, Within, Then and Else; a dot stands for the empty text.
func phase(text string) impl.RecPhase {
	part := strings.Fields(text)
	for i := range part {
		part[i] = choose(part[i] == ".", "", part[i])
	}
	n, _ := strconv.Atoi(part[4])
	within, _ := strconv.Atoi(part[5])
	kind := map[string]int{"fill": 1, "move": 2, "hold": 3, "clean": 4, "test": 5}[part[1]]
	return impl.RecPhase{Name: part[0], Kind: kind, A: part[2], B: part[3], N: n, Within: within, Then: part[6], Else: part[7]}
}

// somePhases is phases that are ok alone, by what they are.
func somePhases() map[string]impl.RecPhase {
	return map[string]impl.RecPhase{
		"fill":             phase("f fill s1 malt 5 10 m scrapped"),
		"move":             phase("m move s1 s2 5 7 good c"),
		"hold":             phase("h hold s1 . 3 9 look saved"),
		"clean":            phase("c clean s3 . 0 3 saved scrapped"),
		"test":             phase("t test s1 . 0 9 go saved"),
		"the least fill":   phase("- fill - - 1 1 - -"),
		"the least move":   phase("0 move 0 1 1 1 0 0"),
		"the least hold":   phase("a hold a . 1 1 a a"),
		"the least clean":  phase("z clean z . 0 1 z z"),
		"the least test":   phase("9 test 9 . 0 1 9 9"),
		"the most fill":    phase("abcdefgh fill zzzzzzzz 01234567 1000 1000 -------- scrapped"),
		"the most move":    phase("abcdefgh move zzzzzzzz zzzzzzzy 1000 1000 -------- scrapped"),
		"the longest hold": phase("abcdefgh hold zzzzzzzz . 1000 1000 -------- scrapped"),
		"the most clean":   phase("abcdefgh clean zzzzzzzz . 0 1000 -------- scrapped"),
		"the most test":    phase("abcdefgh test zzzzzzzz . 0 1000 -------- scrapped"),
		"more than Within": phase("f fill s1 malt 1000 1 good good"),
		"moved at once":    phase("m move s1 s2 1000 1 good good"),
		"called like ends": phase("f fill good saved 5 10 good good"),
		"moved by ends":    phase("m move saved scrapped 5 7 saved saved"),
		"held in an end":   phase("h hold scrapped . 3 9 scrapped scrapped"),
		"goes on to it":    phase("f fill s1 malt 5 10 f f"),
		"one text for all": phase("f fill f f 5 10 f f"),
	}
}

// phaseOfEachKind is a phase of each kind that is ok alone.
func phaseOfEachKind() map[int]impl.RecPhase {
	some := somePhases()
	return map[int]impl.RecPhase{impl.RecFill: some["fill"], impl.RecMove: some["move"], impl.RecHold: some["hold"], impl.RecClean: some["clean"], impl.RecTest: some["test"]}
}

func checkPhase(t *testing.T, what string, p impl.RecPhase, want bool) {
	t.Helper()
	if got := impl.RecPhaseOk(p); got != want {
		t.Errorf("%s: RecPhaseOk(%+v) = %v; want %v", what, p, got, want)
	}
}

// checkPhaseWith asks for a phase of which one thing is another one.
func checkPhaseWith(t *testing.T, what string, p impl.RecPhase, want bool, change func(p *impl.RecPhase)) {
	t.Helper()
	change(&p)
	checkPhase(t, what, p, want)
}

// nearlyEnds is texts that are nearly one of the ends.
func nearlyEnds() []string {
	all := []string{"", "-", "0", "1", "go", "end", "god", "bad", "save", "scrap", "goodsaved", "good saved", "saved,scrapped", "sav\u0435d", strings.Repeat("good", 1000)}
	for _, end := range []string{"good", "saved", "scrapped"} {
		all = append(all, strings.ToUpper(end), strings.ToUpper(end[:1])+end[1:], end[:len(end)-1], end[1:], end+end[len(end)-1:], end+" ", " "+end, end+"\n", end+"\x00", "\x00"+end, end+"-", "-"+end, end+end, end[:1]+end, end[1:]+end[:1])
		for i := range end {
			all = append(all, end[:i]+"x"+end[i+1:], end[:i]+"\xff"+end[i+1:], end[:i]+end[i+1:]+"s", end[:i]+"-"+end[i:])
		}
	}
	return all
}

func TestEnds(t *testing.T) {
	for name, want := range map[string]int{"good": 1, "saved": 2, "scrapped": 3} {
		for _, text := range []string{name, strings.Clone(name), (name + "x")[:len(name)]} {
			if got := impl.RecEnd(text); got != want {
				t.Errorf("RecEnd(%q) = %d; want %d", text, got, want)
			}
		}
	}
	for _, text := range nearlyEnds() {
		if got := impl.RecEnd(text); got != 0 {
			t.Errorf("RecEnd(%q) = %d; want 0", text, got)
		}
	}
	eachText(func(text string, _ bool) {
		if got := impl.RecEnd(text); got != choose(text == "good", 1, 0) {
			t.Errorf("RecEnd(%q) = %d", text, got)
		}
	})
}

func TestConstantsOfRecipes(t *testing.T) {
	for i, kind := range []int{impl.RecFill, impl.RecMove, impl.RecHold, impl.RecClean, impl.RecTest} {
		if kind != i+1 {
			t.Errorf("kind %d is %d", i+1, kind)
		}
	}
	if impl.RecMaxName != 8 || impl.RecMaxPhases != 12 || impl.RecMaxN != 1000 || impl.RecMaxWithin != 1000 {
		t.Error("the limits are not the document's")
	}
}

func TestPhasesThatAreOk(t *testing.T) {
	for what, p := range somePhases() {
		checkPhase(t, what, p, true)
		if !phaseByDefinition(p) {
			t.Errorf("%s is not ok, by reading", what)
		}
	}
}

func TestNamesOfPhases(t *testing.T) {
	for _, p := range phaseOfEachKind() {
		eachText(func(text string, isName bool) {
			what := strconv.Quote(text)
			checkPhaseWith(t, "Name "+what, p, isName && text != "good", func(p *impl.RecPhase) { p.Name = text })
			checkPhaseWith(t, "A "+what, p, isName, func(p *impl.RecPhase) { p.A = text })
			checkPhaseWith(t, "Then "+what, p, isName, func(p *impl.RecPhase) { p.Then = text })
			checkPhaseWith(t, "Else "+what, p, isName, func(p *impl.RecPhase) { p.Else = text })
			hasB := p.Kind == impl.RecFill || p.Kind == impl.RecMove
			checkPhaseWith(t, "B "+what, p, choose(hasB, isName, text == ""), func(p *impl.RecPhase) { p.B = text })
		})
		for _, end := range []string{"good", "saved", "scrapped"} {
			checkPhaseWith(t, "named "+end, p, false, func(p *impl.RecPhase) { p.Name = end })
			checkPhaseWith(t, "a slot "+end, p, true, func(p *impl.RecPhase) { p.A = end })
			checkPhaseWith(t, "then "+end, p, true, func(p *impl.RecPhase) { p.Then = end })
			checkPhaseWith(t, "else "+end, p, true, func(p *impl.RecPhase) { p.Else = end })
		}
		// What is nearly an end is a name like any other one.
		for _, text := range nearlyEnds() {
			checkPhaseWith(t, "named "+text, p, nameByDefinition(text), func(p *impl.RecPhase) { p.Name = text })
		}
	}
	for _, end := range []string{"good", "saved", "scrapped"} {
		checkPhaseWith(t, "a stuff "+end, somePhases()["fill"], true, func(p *impl.RecPhase) { p.B = end })
		checkPhaseWith(t, "to "+end, somePhases()["move"], true, func(p *impl.RecPhase) { p.B = end })
	}
}

func TestSecondTextsOfPhases(t *testing.T) {
	some := somePhases()
	for kind, p := range phaseOfEachKind() {
		hasB := kind <= impl.RecMove
		for text, isName := range map[string]bool{"": false, "s9": true, "-": true, "good": true, "S9": false, "s 9": false, "abcdefgh": true, "abcdefghi": false} {
			checkPhaseWith(t, "B "+text, p, choose(hasB, isName, text == ""), func(p *impl.RecPhase) { p.B = text })
		}
		checkPhaseWith(t, "B as A", p, kind == impl.RecFill, func(p *impl.RecPhase) { p.B = p.A })
	}
	// Only from a slot to itself nothing can be moved; a stuff may be called as the slot is.
	for _, text := range []string{"s1", "a", "good", "--------"} {
		checkPhaseWith(t, "moved to itself", some["move"], false, func(p *impl.RecPhase) { p.A, p.B = text, strings.Clone(text) })
		checkPhaseWith(t, "filled with its name", some["fill"], true, func(p *impl.RecPhase) { p.A, p.B = text, strings.Clone(text) })
		checkPhaseWith(t, "moved to nearly itself", some["move"], true, func(p *impl.RecPhase) { p.A, p.B = "a"+text[1:], "b"+text[1:] })
	}
	checkPhaseWith(t, "the empty text to itself", some["move"], false, func(p *impl.RecPhase) { p.A, p.B = "", "" })
}

// farNumbers is numbers at which something may begin or end, and numbers far away from all of them.
func farNumbers() []int {
	return []int{math.MinInt, -1 << 32, -1001, -1000, -1, 0, 1, 2, 3, 4, 5, 6, 7, 8, 9, 10, 11, 500, 998, 999, 1000, 1001, 1002, 1 << 16, 1 << 32, 1<<32 + 5, math.MaxInt}
}

func TestNumbersOfPhases(t *testing.T) {
	for kind, p := range phaseOfEachKind() {
		for _, number := range farNumbers() {
			// The hold is for 3 ticks, which it must be possible to hold.
			least := choose(kind == impl.RecHold, 3, 1)
			checkPhaseWith(t, "Within", p, number >= least && number <= 1000, func(p *impl.RecPhase) { p.Within = number })
			isN := number == 0
			switch kind {
			case impl.RecFill, impl.RecMove:
				isN = number >= 1 && number <= 1000
			case impl.RecHold:
				isN = number >= 1 && number <= 9
			}
			checkPhaseWith(t, "N", p, isN, func(p *impl.RecPhase) { p.N = number })
			// Two kinds have B and an N, two have neither.
			isAlike := kind <= impl.RecMove && number >= impl.RecFill && number <= impl.RecMove || kind >= impl.RecClean && number >= impl.RecClean && number <= impl.RecTest
			checkPhaseWith(t, "Kind", p, number == kind || isAlike, func(p *impl.RecPhase) { p.Kind = number })
		}
	}
	for _, within := range []int{1, 2, 3, 500, 999, 1000} {
		for n := -1; n <= 1002; n++ {
			checkPhaseWith(t, "held", somePhases()["hold"], n >= 1 && n <= within, func(p *impl.RecPhase) { p.N, p.Within = n, within })
		}
	}
}

// A phase of another kind is not ok, whatever it has.
func TestPhasesOfNoKind(t *testing.T) {
	for _, kind := range []int{math.MinInt, -6, -1, 0, 6, 7, 257, 1 + 1<<32, math.MaxInt} {
		for what, p := range somePhases() {
			checkPhaseWith(t, what, p, false, func(p *impl.RecPhase) { p.Kind = kind })
			checkPhaseWith(t, what, p, false, func(p *impl.RecPhase) { p.Kind, p.B, p.N = kind, "", 0 })
		}
	}
	checkPhase(t, "nothing", impl.RecPhase{}, false)
}

// phaseByDefinition reads the chapter a second time.
func phaseByDefinition(p impl.RecPhase) bool {
	hasB, least, most := false, 0, 0
	switch p.Kind {
	case 1, 2:
		hasB, least, most = true, 1, 1000
	case 3:
		least, most = 1, p.Within
	case 4, 5:
	default:
		return false
	}
	for _, name := range []string{p.Name, p.A, p.Then, p.Else} {
		if !nameByDefinition(name) {
			return false
		}
	}
	isEnd := p.Name == "good" || p.Name == "saved" || p.Name == "scrapped"
	isSame := p.Kind == 2 && p.A == p.B
	return !isEnd && !isSame && nameByDefinition(p.B) == hasB && (hasB || p.B == "") && p.Within >= 1 && p.Within <= 1000 && p.N >= least && p.N <= most
}

func TestPhasesOfWhichOneOrTwoThingsAreChanged(t *testing.T) {
	texts := []string{"", "s1", "s2", "m", "good", "saved", "scrapped", "Good", "abcdefgh", "abcdefghi", "\xff"}
	ok, not := 0, 0
	for what, from := range somePhases() {
		eachWithOneChange(from, texts, func(p impl.RecPhase) {
			checkPhase(t, "one thing of "+what, p, phaseByDefinition(p))
			eachWithOneChange(p, texts, func(p impl.RecPhase) {
				want := phaseByDefinition(p)
				checkPhase(t, "two things of "+what, p, want)
				ok += choose(want, 1, 0)
				not += choose(want, 0, 1)
			})
		})
	}
	if ok < 10000 || not < 10000 {
		t.Errorf("%d are ok, %d not", ok, not)
	}
}

func TestPhasesOfVeryLongTexts(t *testing.T) {
	long := strings.Repeat("a", 1<<20)
	for _, p := range phaseOfEachKind() {
		for _, change := range []func(p *impl.RecPhase){
			func(p *impl.RecPhase) { p.Name = long }, func(p *impl.RecPhase) { p.A = long }, func(p *impl.RecPhase) { p.B = long },
			func(p *impl.RecPhase) { p.Then = long }, func(p *impl.RecPhase) { p.Else = long }, func(p *impl.RecPhase) { p.A, p.B = long, strings.Clone(long) },
		} {
			checkPhaseWith(t, "a long text", p, false, change)
		}
	}
}

// What one call was given must not be seen in the next one, nor in one beside it.
func TestPhasesKeepNothing(t *testing.T) {
	var callers sync.WaitGroup
	for range 8 {
		callers.Go(func() {
			for range 50 {
				for what, p := range somePhases() {
					checkPhase(t, what, p, true)
					p.N = -1
					checkPhase(t, what, p, false)
					if impl.RecEnd("saved") != 2 || impl.RecEnd("Saved") != 0 {
						t.Error("the ends have changed")
					}
				}
			}
		})
	}
	callers.Wait()
}
