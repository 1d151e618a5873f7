package tests

import (
	"fmt"
	"math"
	"math/rand"
	"reflect"
	"slices"
	"strconv"
	"strings"
	"sync"
	"testing"

	"loop.example/malthouse/impl"
)

// stateOf reads where a run is, when, and how much is left.
func stateOf(text string) impl.RecState {
	part := strings.Fields(text)
	now, _ := strconv.Atoi(part[1])
	left, _ := strconv.Atoi(part[2])
	return impl.RecState{At: part[0], Now: now, Left: left}
}

// saysOf reads how phases go: + is well, - is not, and behind it stand the ticks.
func saysOf(text string) []impl.RecSay {
	var says []impl.RecSay
	for _, part := range strings.Fields(text) {
		ticks, _ := strconv.Atoi(part[1:])
		says = append(says, impl.RecSay{Ticks: ticks, Well: part[0] == '+'})
	}
	return says
}

func checkBegin(t *testing.T, what string, r []impl.RecPhase, want impl.RecState) {
	t.Helper()
	if got := impl.RecBegin(r); got != want {
		t.Errorf("%s: it begins as %+v; want %+v: %+v", what, got, want, r)
	}
}

func checkGoes(t *testing.T, what string, r []impl.RecPhase, s impl.RecState, say impl.RecSay, want impl.RecState) {
	t.Helper()
	if got, ok := impl.RecGo(r, s, say); got != want || !ok {
		t.Errorf("%s: %+v goes on by %+v to %+v, %v; want %+v: %+v", what, s, say, got, ok, want, r)
	}
}

// checkNothingGoes says that nothing goes, whatever is said.
func checkNothingGoes(t *testing.T, what string, r []impl.RecPhase, s impl.RecState) {
	t.Helper()
	for _, say := range []impl.RecSay{{}, {Well: true}, {Ticks: 3, Well: true}, {Ticks: -1}, {Ticks: math.MaxInt, Well: true}, {Ticks: math.MinInt}} {
		if got, ok := impl.RecGo(r, s, say); got != s || ok {
			t.Errorf("%s: %+v goes on by %+v to %+v, %v: %+v", what, s, say, got, ok, r)
		}
	}
}

func checkRunsTo(t *testing.T, what string, r []impl.RecPhase, says []impl.RecSay, want impl.RecState, passed ...string) {
	t.Helper()
	if got, path := impl.RecRun(r, says); got != want || !slices.Equal(path, passed) {
		t.Errorf("%s: by %+v it is %+v behind %q; want %+v behind %q: %+v", what, says, got, path, want, passed, r)
	}
}

// runReading reads the chapter a second time, of one recipe.
type runReading struct {
	ok     bool
	first  string
	phases map[string]impl.RecPhase
	told   map[string]told3
}

func readingOf(r []impl.RecPhase) runReading {
	g := runReading{ok: recipeByDefinition(r), phases: map[string]impl.RecPhase{}, told: map[string]told3{}}
	if g.ok {
		g.first = r[0].Name
		for _, p := range r {
			g.phases[p.Name], g.told[p.Name] = p, told3ByWays(r, p.Name)
		}
	}
	return g
}

func (g runReading) begins() impl.RecState {
	return impl.RecState{At: g.first, Left: g.told[g.first].Bound}
}

// goes waits for a phase tick by tick.
func (g runReading) goes(s impl.RecState, say impl.RecSay) (impl.RecState, bool) {
	p, isPhase := g.phases[s.At]
	if !isPhase || s.Now < 0 || s.Now > 12000 {
		return s, false
	}
	next, tick := p.Else, 0
	for ; tick <= p.Within; tick++ {
		isHeld := p.Kind == 3 && say.Well && tick < p.N
		if tick >= say.Ticks && !isHeld {
			next = choose(say.Well, p.Then, p.Else)
			break
		}
	}
	return impl.RecState{At: next, Now: s.Now + min(tick, p.Within), Left: g.told[next].Bound}, true
}

func (g runReading) runs(says []impl.RecSay) (impl.RecState, []string) {
	s, passed := g.begins(), []string{}
	for i := 0; g.phases[s.At].Name != ""; i++ {
		passed = append(passed, s.At)
		say := impl.RecSay{Ticks: 5000, Well: true}
		if i < len(says) {
			say = says[i]
		}
		s, _ = g.goes(s, say)
	}
	return s, passed
}

func (g runReading) checkGo(t *testing.T, what string, r []impl.RecPhase, s impl.RecState, say impl.RecSay) {
	t.Helper()
	want, goes := g.goes(s, say)
	if got, ok := impl.RecGo(r, s, say); got != want || ok != goes {
		t.Errorf("%s: %+v goes on by %+v to %+v, %v; want %+v, %v: %+v", what, s, say, got, ok, want, goes, r)
	}
}

func (g runReading) checkRun(t *testing.T, what string, r []impl.RecPhase, says []impl.RecSay) {
	t.Helper()
	want, passed := g.runs(says)
	checkRunsTo(t, what, r, says, want, passed...)
}

// ticksOf is ticks at which something may begin or end for a phase, and ticks far away from all of that.
func ticksOf(p impl.RecPhase) []int {
	all := []int{math.MinInt, math.MinInt + 1, -1 << 40, -1 << 32, -12000, -1000, -p.Within, -2, -1, 0, 1, 2, p.N - 1, p.N, p.N + 1, p.Within - 1, p.Within, p.Within + 1, 999, 1000, 1001, 1002, 11999, 12000, 12001, 1 << 16, 1 << 32, 1<<32 + 1, math.MaxInt - 1, math.MaxInt}
	slices.Sort(all)
	return slices.Compact(all)
}

// eachSay tells of all ways in which a phase may go.
func eachSay(p impl.RecPhase, tell func(say impl.RecSay)) {
	for _, ticks := range ticksOf(p) {
		tell(impl.RecSay{Ticks: ticks, Well: true})
		tell(impl.RecSay{Ticks: ticks})
	}
}

func TestRunsThatBegin(t *testing.T) {
	checkBegin(t, "one phase", recipe("a clean s . 0 1 good good"), stateOf("a 0 1"))
	checkBegin(t, "one long phase", recipe("z hold s . 1000 1000 good saved"), stateOf("z 0 1000"))
	checkBegin(t, "as many as there can be", longest(), stateOf("p10 0 12000"))
	checkBegin(t, "brewing", brewing(), stateOf("fill 0 98"))
	checkBegin(t, "forked", forked(), stateOf("a 0 55"))
	checkBegin(t, "nothing leads to the second", recipe("b clean s . 0 4 good saved", "a clean s . 0 7 good good"), stateOf("b 0 4"))
	short := longest()
	for i := range short {
		short[i].Within = 1
		short[i].Else = "scrapped"
	}
	checkBegin(t, "as many as there can be, and all short", short, stateOf("p10 0 12"))
	for what, r := range someRecipes() {
		checkBegin(t, what, r, readingOf(r).begins())
	}
}

func TestRunsThatDoNotBegin(t *testing.T) {
	for i, r := range append(spoiltRecipes(), []impl.RecPhase{}) {
		checkBegin(t, strconv.Itoa(i), r, impl.RecState{})
	}
}

func TestHowPhasesGo(t *testing.T) {
	r := recipe("f fill s malt 900 10 m scrapped", "m move s r 3 7 h c", "h hold r . 4 6 t saved", "t test r . 0 9 c good", "c clean s . 0 5 good saved")
	for _, one := range []struct{ from, well, other string }{
		{"f 0 37", "m 0 27", "scrapped 0 0"}, {"m 9 27", "h 9 20", "c 9 5"}, {"t 40 14", "c 40 5", "good 40 0"}, {"c 11999 5", "good 11999 0", "saved 11999 0"},
	} {
		s, well, other := stateOf(one.from), stateOf(one.well), stateOf(one.other)
		within := map[string]int{"f": 10, "m": 7, "t": 9, "c": 5}[s.At]
		for _, ticks := range []int{math.MinInt, -1000, -1, 0, 1, 2, within - 1, within, within + 1, within + 2, 1000, 1001, 1 << 32, math.MaxInt} {
			takes := max(0, min(ticks, within))
			then, late := well, other
			then.Now, late.Now = s.Now+takes, s.Now+takes
			checkGoes(t, "well", r, s, impl.RecSay{Ticks: ticks, Well: true}, choose(ticks <= within, then, late))
			checkGoes(t, "badly", r, s, impl.RecSay{Ticks: ticks}, late)
		}
	}
}

func TestWhatIsHeld(t *testing.T) {
	r := recipe("h hold s . 5 10 t scrapped", "t test s . 0 7 good saved")
	all := recipe("h hold s . 10 10 good saved")
	least := recipe("h hold s . 1 1 good saved")
	for _, one := range []struct {
		recipe []impl.RecPhase
		says   string
		want   string
	}{
		// Held for less than it has to be, it takes longer than is said.
		{r, "+-9", "t 5 7"}, {r, "+-1", "t 5 7"}, {r, "+0", "t 5 7"}, {r, "+1", "t 5 7"}, {r, "+4", "t 5 7"}, {r, "+5", "t 5 7"}, {r, "+6", "t 6 7"}, {r, "+9", "t 9 7"}, {r, "+10", "t 10 7"},
		{r, "+11", "scrapped 10 0"}, {r, "+12", "scrapped 10 0"}, {r, "+9223372036854775807", "scrapped 10 0"}, {r, "+-9223372036854775808", "t 5 7"},
		// What goes badly need not be held.
		{r, "--9", "scrapped 0 0"}, {r, "--1", "scrapped 0 0"}, {r, "-0", "scrapped 0 0"}, {r, "-1", "scrapped 1 0"}, {r, "-4", "scrapped 4 0"}, {r, "-5", "scrapped 5 0"}, {r, "-6", "scrapped 6 0"}, {r, "-10", "scrapped 10 0"},
		{r, "-11", "scrapped 10 0"}, {r, "-9223372036854775807", "scrapped 10 0"}, {r, "--9223372036854775808", "scrapped 0 0"},
		// What has to be held for all of its ticks can still go well.
		{all, "+-1", "good 10 0"}, {all, "+0", "good 10 0"}, {all, "+9", "good 10 0"}, {all, "+10", "good 10 0"}, {all, "+11", "saved 10 0"}, {all, "-9", "saved 9 0"}, {all, "-10", "saved 10 0"}, {all, "-11", "saved 10 0"},
		{least, "+0", "good 1 0"}, {least, "+1", "good 1 0"}, {least, "+2", "saved 1 0"}, {least, "-0", "saved 0 0"}, {least, "-1", "saved 1 0"}, {least, "-2", "saved 1 0"},
	} {
		checkGoes(t, one.says, one.recipe, impl.RecBegin(one.recipe), saysOf(one.says)[0], stateOf(one.want))
		later, want := impl.RecBegin(one.recipe), stateOf(one.want)
		later.Now, want.Now = later.Now+700, want.Now+700
		checkGoes(t, one.says+" later", one.recipe, later, saysOf(one.says)[0], want)
	}
	// Only what is held has to take its N: of others that is an amount.
	for _, line := range []string{"a fill s malt 5 10 good saved", "a move s r 5 10 good saved"} {
		checkGoes(t, line, recipe(line), stateOf("a 0 10"), impl.RecSay{Well: true}, stateOf("good 0 0"))
		checkGoes(t, line, recipe(line), stateOf("a 0 10"), impl.RecSay{Ticks: 2, Well: true}, stateOf("good 2 0"))
	}
}

// Each phase of each kind, alone and in a recipe, goes in all ways.
func TestGoingByReading(t *testing.T) {
	for what, r := range someRecipes() {
		g := readingOf(r)
		for _, p := range r {
			for _, now := range []int{0, 1, 500, 11000, 11999, 12000} {
				eachSay(p, func(say impl.RecSay) {
					g.checkGo(t, what, r, impl.RecState{At: p.Name, Now: now, Left: g.told[p.Name].Bound}, say)
				})
			}
		}
	}
	for within := 1; within <= 9; within++ {
		for n := 1; n <= within; n++ {
			r := []impl.RecPhase{{Name: "h", Kind: impl.RecHold, A: "s", N: n, Within: within, Then: "good", Else: "scrapped"}}
			g := readingOf(r)
			for ticks := -2; ticks <= 11; ticks++ {
				g.checkGo(t, "held", r, stateOf("h 3 9"), impl.RecSay{Ticks: ticks, Well: true})
				g.checkGo(t, "held", r, stateOf("h 3 9"), impl.RecSay{Ticks: ticks})
			}
		}
	}
}

func TestGoingOfWhatIsNotOk(t *testing.T) {
	for i, r := range append(spoiltRecipes(), []impl.RecPhase{}) {
		for _, at := range []string{"fill", "rest", "a", "e", "p10", "p21", "good", ""} {
			checkNothingGoes(t, strconv.Itoa(i), r, impl.RecState{At: at, Now: 3, Left: 98})
		}
		for _, p := range r {
			checkNothingGoes(t, strconv.Itoa(i), r, impl.RecState{At: p.Name})
		}
	}
}

func TestGoingFromWhatIsNoPhase(t *testing.T) {
	for what, r := range someRecipes() {
		isPhase := map[string]bool{}
		for _, p := range r {
			isPhase[p.Name] = true
		}
		for _, at := range append(fromsOf(r), "saved ", "\x00") {
			if !isPhase[at] {
				checkNothingGoes(t, what, r, impl.RecState{At: at})
				checkNothingGoes(t, what, r, impl.RecState{At: at, Now: 12000, Left: -7})
			}
		}
	}
}

func TestWhenPhasesGo(t *testing.T) {
	for what, r := range map[string][]impl.RecPhase{"brewing": brewing(), "forked": forked(), "longest": longest(), "one": recipe("a clean s . 0 1 good good")} {
		g := readingOf(r)
		for _, p := range r {
			for _, left := range []int{math.MinInt, -1, 0, 1, g.told[p.Name].Bound, g.told[p.Name].Bound + 1, 12001, math.MaxInt} {
				for _, now := range []int{math.MinInt, math.MinInt + 1, -1 << 32, -12000, -1000, -2, -1, 12001, 12002, 13000, 1 << 16, 1 << 32, 1<<32 + 5, math.MaxInt - 1000, math.MaxInt - 1, math.MaxInt} {
					checkNothingGoes(t, what, r, impl.RecState{At: p.Name, Now: now, Left: left})
				}
				// What is left is not asked for: it is told anew.
				for _, now := range []int{0, 1, 11999, 12000} {
					s := impl.RecState{At: p.Name, Now: now, Left: left}
					checkGoes(t, what, r, s, impl.RecSay{Well: true}, impl.RecState{At: p.Then, Now: now + choose(p.Kind == 3, p.N, 0), Left: g.told[p.Then].Bound})
					checkGoes(t, what, r, s, impl.RecSay{Ticks: 1}, impl.RecState{At: p.Else, Now: now + 1, Left: g.told[p.Else].Bound})
					checkGoes(t, what, r, s, impl.RecSay{Ticks: 1001, Well: true}, impl.RecState{At: p.Else, Now: now + p.Within, Left: g.told[p.Else].Bound})
				}
			}
		}
	}
	// As late as a phase can go, and as late as a run can be then.
	checkGoes(t, "late", longest(), stateOf("p10 12000 12000"), impl.RecSay{Ticks: 1000, Well: true}, stateOf("p11 13000 11000"))
	checkNothingGoes(t, "too late", longest(), stateOf("p11 13000 11000"))
}

func TestRunsToTheirEnds(t *testing.T) {
	for _, one := range []struct {
		recipe       []impl.RecPhase
		says         string
		want, passed string
	}{
		{brewing(), "", "scrapped 30 0", "fill"},
		{brewing(), "+0", "saved 9 0", "fill rest"},
		{brewing(), "+30 +9 +8 +31 +20", "good 98 0", "fill rest look go wash"},
		{brewing(), "+30 +9 +8 +31 +21", "saved 98 0", "fill rest look go wash"},
		{brewing(), "+30 +9 +8 +31", "saved 98 0", "fill rest look go wash"},
		{brewing(), "+1 +1 +1 +1 +1", "good 7 0", "fill rest look go wash"},
		{brewing(), "+1 +1 +1 +1 +1 -9 +9 -9", "good 7 0", "fill rest look go wash"},
		{brewing(), "+1 +1 +1 +1 -1", "saved 7 0", "fill rest look go wash"},
		{brewing(), "+1 +1 +1 +32 +1", "saved 36 0", "fill rest look go"},
		{brewing(), "+1 +1 -2", "saved 6 0", "fill rest look"},
		{brewing(), "+1 -1 +2", "saved 2 0", "fill rest"},
		{brewing(), "-7 +1 +1", "scrapped 7 0", "fill"},
		{brewing(), "--7 +1 +1", "scrapped 0 0", "fill"},
		{brewing(), "+31 +1 +1", "scrapped 30 0", "fill"},
		{forked(), "", "saved 38 0", "a c e"},
		{forked(), "+1", "saved 48 0", "a b d"},
		{forked(), "+1 -1", "saved 9 0", "a b d"},
		{forked(), "+1 +1 +1", "saved 7 0", "a b d e"},
		{forked(), "+1 +1 +1 +1", "scrapped 5 0", "a b d e"},
		{forked(), "-1 +1 +1 +1", "scrapped 4 0", "a c d e"},
		{forked(), "-1 -1 +3", "scrapped 5 0", "a c e"},
		{forked(), "+5 +40 +7 +3", "scrapped 55 0", "a b d e"},
		{longest(), "", "good 12000 0", "p10 p11 p12 p13 p14 p15 p16 p17 p18 p19 p20 p21"},
		{longest(), strings.Repeat("+0 ", 12), "good 0 0", "p10 p11 p12 p13 p14 p15 p16 p17 p18 p19 p20 p21"},
		{longest(), strings.Repeat("-1000 ", 11) + "+999", "good 11999 0", "p10 p11 p12 p13 p14 p15 p16 p17 p18 p19 p20 p21"},
		{recipe("a clean s . 0 1 good scrapped"), "", "scrapped 1 0", "a"},
		{recipe("a clean s . 0 1 good scrapped"), "+0", "good 0 0", "a"},
		{recipe("a clean s . 0 1000 good scrapped"), "", "scrapped 1000 0", "a"},
		{recipe("a clean s . 0 1000 good scrapped"), "+1000", "good 1000 0", "a"},
		{recipe("a clean s . 0 1000 good scrapped"), "+1001", "scrapped 1000 0", "a"},
		{recipe("h hold s . 1000 1000 good saved"), "", "saved 1000 0", "h"},
		{recipe("h hold s . 1000 1000 good saved"), "+0", "good 1000 0", "h"},
	} {
		checkRunsTo(t, one.says, one.recipe, saysOf(one.says), stateOf(one.want), strings.Fields(one.passed)...)
	}
	checkRunsTo(t, "an empty list", brewing(), []impl.RecSay{}, stateOf("scrapped 30 0"), "fill")
}

func TestRunsOfWhatIsNotOk(t *testing.T) {
	for i, r := range append(spoiltRecipes(), []impl.RecPhase{}) {
		for _, says := range []string{"", "+0", "-1 +1", strings.Repeat("+1 ", 20)} {
			checkRunsTo(t, strconv.Itoa(i), r, saysOf(says), impl.RecState{})
		}
	}
}

// checkRunPromises goes a run phase by phase: promises 32, 33, 34 and 37.
func checkRunPromises(t *testing.T, r []impl.RecPhase, says []impl.RecSay) {
	t.Helper()
	end, passed := impl.RecRun(r, says)
	number, first := impl.RecEnd(end.At), impl.RecBegin(r)
	if number == 0 || end.Left != 0 || end.Now < 0 || end.Now > impl.RecBound(r, r[0].Name) || first.Now != 0 {
		t.Errorf("by %+v it begins as %+v, and ends as %+v: %+v", says, first, end, r)
	}
	s, sum, slots := first, first.Left, impl.RecSlots(r, first.At)
	for i := 0; i < 20 && impl.RecEnd(s.At) == 0; i++ {
		if i >= len(passed) || passed[i] != s.At || !impl.RecCan(r, s.At, number) {
			t.Errorf("by %+v it is at %q, phase %d of %q, and comes to %+v: %+v", says, s.At, i, passed, end, r)
			return
		}
		say := impl.RecSay{Ticks: math.MaxInt, Well: true}
		if i < len(says) {
			say = says[i]
		}
		next := checkOneGo(t, r, s, say)
		still := impl.RecSlots(r, next.At)
		if next.Now+next.Left > sum || slices.ContainsFunc(still, func(slot string) bool { return !slices.Contains(slots, slot) }) {
			t.Errorf("by %+v %+v goes on to %+v, with the slots %q and then %q: %+v", say, s, next, slots, still, r)
		}
		s, sum, slots = next, next.Now+next.Left, still
	}
	if s != end || len(passed) == 0 || passed[0] != r[0].Name {
		t.Errorf("by %+v it comes to %+v, and by RecRun to %+v, behind %q: %+v", says, s, end, passed, r)
	}
}

// checkOneGo is promise 37, and where it goes on to.
func checkOneGo(t *testing.T, r []impl.RecPhase, s impl.RecState, say impl.RecSay) impl.RecState {
	t.Helper()
	p := r[slices.IndexFunc(r, func(p impl.RecPhase) bool { return p.Name == s.At })]
	next, ok := impl.RecGo(r, s, say)
	took, isWell := next.Now-s.Now, say.Well && say.Ticks <= p.Within
	if !ok || took < 0 || took > p.Within || next.At != choose(isWell, p.Then, p.Else) || next.Left != impl.RecBound(r, next.At) {
		t.Errorf("%+v goes on by %+v to %+v, %v: %+v", s, say, next, ok, p)
	}
	if isWell && p.Kind == impl.RecHold && took < p.N {
		t.Errorf("%+v is held well by %+v for %d: %+v", s, say, took, p)
	}
	return next
}

// howPhasesGo is ways to go that each end otherwise, or at another time.
func howPhasesGo(p impl.RecPhase) []impl.RecSay {
	return []impl.RecSay{{Ticks: -1, Well: true}, {Ticks: p.Within, Well: true}, {Ticks: p.Within + 1, Well: true}, {Ticks: 1}, {Ticks: math.MaxInt}}
}

// eachRun tells all that can be said of a run, with fewer says than phases are met, and with as many; each phase goes in some ways.
func eachRun(r []impl.RecPhase, said []impl.RecSay, tell func(says []impl.RecSay)) {
	tell(said)
	_, passed := impl.RecRun(r, said)
	if len(passed) <= len(said) {
		return
	}
	at := slices.IndexFunc(r, func(p impl.RecPhase) bool { return p.Name == passed[len(said)] })
	for _, say := range howPhasesGo(r[at]) {
		eachRun(r, append(slices.Clone(said), say), tell)
	}
}

// Promises 32, 33, 34 and 37.
func TestAllRuns(t *testing.T) {
	for what, r := range someRecipes() {
		// The last phases of a recipe are one, too, and of a long one there would be too many runs.
		if len(r) > 6 {
			r = r[len(r)-5:]
		}
		g, ends := readingOf(r), map[string]bool{}
		eachRun(r, nil, func(says []impl.RecSay) {
			checkRunPromises(t, r, says)
			g.checkRun(t, what, r, says)
			end, passed := impl.RecRun(r, says)
			ends[end.At] = true
			if len(passed) == len(says) {
				// What is said behind the end is not heard.
				checkRunsTo(t, what, r, append(slices.Clone(says), impl.RecSay{Ticks: 2, Well: true}, impl.RecSay{}), end, passed...)
			}
		})
		for number, end := range []string{"good", "saved", "scrapped"} {
			if impl.RecCan(r, r[0].Name, number+1) != ends[end] {
				t.Errorf("%s: it ends as %v", what, ends)
			}
		}
	}
}

// Promises 32 and 33: whatever never ends by itself.
func TestRunsInWhichNothingEndsByItself(t *testing.T) {
	for _, r := range someRecipes() {
		checkRunPromises(t, r, nil)
		for _, say := range []impl.RecSay{{Ticks: math.MaxInt, Well: true}, {Ticks: math.MaxInt}, {Ticks: 1001, Well: true}} {
			checkRunPromises(t, r, slices.Repeat([]impl.RecSay{say}, 40))
		}
	}
}

// Each way there is can be gone, and the longest one, if each phase takes all of its ticks, takes just RecBound.
func TestRunsByAllWays(t *testing.T) {
	for what, r := range someRecipes() {
		g, most := readingOf(r), 0
		for _, way := range waysFrom(r, r[0].Name) {
			last := len(way) - 1
			var says []impl.RecSay
			for i, name := range way[:last] {
				p := g.phases[name]
				says = append(says, impl.RecSay{Ticks: p.Within, Well: p.Then == way[i+1]})
			}
			end, passed := impl.RecRun(r, says)
			if end.At != way[last] || !slices.Equal(passed, way[:last]) {
				t.Errorf("%s: by %+v it went by %q to %+v; want %q", what, says, passed, end, way)
			}
			most = max(most, end.Now)
		}
		if most != impl.RecBound(r, r[0].Name) {
			t.Errorf("%s: it takes %d ticks at most", what, most)
		}
	}
}

// drawnSays draws how some phases go.
func drawnSays(dice *rand.Rand) []impl.RecSay {
	var says []impl.RecSay
	for range dice.Intn(16) {
		ticks := []int{dice.Intn(14), dice.Intn(14), dice.Intn(3), dice.Intn(1200), -dice.Intn(1200), math.MaxInt, math.MinInt}
		says = append(says, impl.RecSay{Ticks: ticks[dice.Intn(len(ticks))], Well: dice.Intn(4) > 0})
	}
	return says
}

// Promises 32, 33, 34 and 37.
func TestDrawnRuns(t *testing.T) {
	dice := rand.New(rand.NewSource(44))
	ends := map[string]int{}
	fewer, more, long, held, late := 0, 0, 0, 0, 0
	for range 1500 {
		r := drawnRecipe(dice)
		g := readingOf(r)
		for range 4 {
			says := drawnSays(dice)
			checkRunPromises(t, r, says)
			g.checkRun(t, "drawn", r, says)
			end, passed := impl.RecRun(r, says)
			ends[end.At]++
			fewer += choose(len(says) < len(passed), 1, 0)
			more += choose(len(says) > len(passed), 1, 0)
			long += choose(len(passed) >= 6, 1, 0)
			for i, name := range passed[:min(len(passed), len(says))] {
				p := g.phases[name]
				held += choose(p.Kind == impl.RecHold && says[i].Well && says[i].Ticks < p.N, 1, 0)
				late += choose(says[i].Well && says[i].Ticks > p.Within, 1, 0)
			}
		}
	}
	for _, many := range []int{ends["good"], ends["saved"], ends["scrapped"], fewer, more, long, held, late} {
		if many < 100 {
			t.Errorf("ends %v, %d with fewer says, %d with more, %d are long, %d were held, %d late", ends, fewer, more, long, held, late)
			break
		}
	}
}

// Of what was changed everything is as it reads, whether it is still ok or not.
func TestRunsOfWhichOneThingIsChanged(t *testing.T) {
	says := saysOf("+1 +2 -1 +9")
	ok, not := 0, 0
	for what, from := range map[string][]impl.RecPhase{"brewing": brewing(), "forked": forked(), "one": recipe("a hold s . 1 2 good saved")} {
		eachWithOneChange(from, append(textsOfAll(from), "good", "saved", "scrapped"), func(r []impl.RecPhase) {
			g := readingOf(r)
			checkBegin(t, what, r, g.begins())
			g.checkRun(t, what, r, says)
			for _, p := range from {
				g.checkGo(t, what, r, impl.RecState{At: p.Name, Now: 12, Left: 1}, says[0])
				g.checkGo(t, what, r, impl.RecState{At: p.Name, Now: 7, Left: 2}, says[2])
			}
			ok += choose(g.ok, 1, 0)
			not += choose(g.ok, 0, 1)
		})
		g := readingOf(from)
		eachWithOneChange(impl.RecState{At: from[0].Name, Now: 5, Left: 6}, textsOfAll(from), func(s impl.RecState) {
			eachWithOneChange(says[0], nil, func(say impl.RecSay) { g.checkGo(t, what, from, s, say) })
		})
	}
	if ok < 300 || not < 700 {
		t.Errorf("%d are ok, %d not", ok, not)
	}
}

// asking4 is what is asked of a run.
type asking4 struct {
	Recipe []impl.RecPhase
	State  impl.RecState
	Says   []impl.RecSay
}

// answers4 is all that is answered of a run.
type answers4 struct {
	Begins, Goes, Ends impl.RecState
	Passed             []string
}

func answers4Of(one asking4) answers4 {
	var a answers4
	a.Begins = impl.RecBegin(one.Recipe)
	a.Goes, _ = impl.RecGo(one.Recipe, one.State, one.Says[0])
	a.Ends, a.Passed = impl.RecRun(one.Recipe, one.Says)
	return a
}

// askingsOfRuns is runs that go, and runs that do not.
func askingsOfRuns() []asking4 {
	var all []asking4
	says := []string{"+0", "+1 +1 -1", "-1", "+1 +1 +1 +1 +1 +1 +1 +1 +1 +1 +1 +1 +1"}
	for _, r := range someRecipes() {
		for i, p := range r {
			all = append(all, asking4{r, impl.RecState{At: p.Name, Now: i}, saysOf(says[i%4])})
		}
		all = append(all, asking4{r, stateOf("good 3 0"), saysOf(says[0])}, asking4{r, stateOf(r[0].Name + " 12001 9"), saysOf(says[3])})
	}
	for i, r := range spoiltRecipes() {
		all = append(all, asking4{r, stateOf("fill 0 98"), saysOf(says[i%4])})
	}
	return all
}

func TestRunsAreNotWrittenInto(t *testing.T) {
	for i, asked := range askingsOfRuns() {
		one := withRoom(asked)
		was := withWhatIsBehind(one)
		first := answers4Of(one)
		if again := answers4Of(one); !reflect.DeepEqual(again, first) || !reflect.DeepEqual(answers4Of(asked), first) {
			t.Errorf("%d: it was %+v and is %+v", i, first, again)
		}
		if !reflect.DeepEqual(withWhatIsBehind(one), was) {
			t.Errorf("%d: what was asked became %+v", i, withWhatIsBehind(one))
		}
	}
}

func TestRunsAreNewMemory(t *testing.T) {
	for i, asked := range askingsOfRuns() {
		what := strconv.Itoa(i)
		one := withRoom(asked)
		one.State.At = strings.Clone(one.State.At)
		first := answers4Of(one)
		second := answers4Of(one)
		checkOwnMemory(t, what, first, one)
		checkOwnMemory(t, what, second, one, first)
		checkOwnLists(t, what, first, one)
		checkOwnLists(t, what, second, one, first)
		want := fmt.Sprint(second)
		spoilTexts(first.Passed)
		if got, again := fmt.Sprint(second), fmt.Sprint(answers4Of(one)); got != want || again != want {
			t.Errorf("%d: behind an answer that was written into it is %s, and then %s; want %s", i, got, again, want)
		}
	}
}

func TestRunsOfVeryLongLists(t *testing.T) {
	long := slices.Repeat(recipe("a clean s . 0 1 good good"), 200000)
	checkBegin(t, "many", long, impl.RecState{})
	checkNothingGoes(t, "many", long, stateOf("a 0 1"))
	checkRunsTo(t, "many", long, saysOf("+1"), impl.RecState{})
	checkRunsTo(t, "said for long", brewing(), slices.Repeat(saysOf("+1"), 1<<20), stateOf("good 7 0"), "fill", "rest", "look", "go", "wash")
	checkRunsTo(t, "said for long of nothing", nil, slices.Repeat(saysOf("+1"), 1<<20), impl.RecState{})
	checkNothingGoes(t, "at a long name", brewing(), impl.RecState{At: strings.Repeat("fill", 1<<20), Now: 4, Left: 98})
}

// What one call was given must not be seen in the next one, nor in one beside it.
func TestRunsKeepNothing(t *testing.T) {
	all, wrong := someRecipes(), spoiltRecipes()
	var callers sync.WaitGroup
	for range 8 {
		callers.Go(func() {
			for what, r := range all {
				g := readingOf(r)
				for i, p := range r {
					says := saysOf("+1 -1 +3 +0 +7 -2")[:i%6]
					checkRunsTo(t, what, wrong[i*7%len(wrong)], says, impl.RecState{})
					g.checkRun(t, what, r, says)
					checkNothingGoes(t, what, wrong[i*5%len(wrong)], impl.RecState{At: p.Name, Now: i})
					g.checkGo(t, what, r, impl.RecState{At: p.Name, Now: i}, impl.RecSay{Ticks: i, Well: i%2 == 0})
					checkBegin(t, what, wrong[i*3%len(wrong)], impl.RecState{})
					checkBegin(t, what, r, g.begins())
				}
			}
		})
	}
	callers.Wait()
}
