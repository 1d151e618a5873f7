package tests

import (
	"fmt"
	"math"
	"math/rand"
	"reflect"
	"slices"
	"strconv"
	"strings"
	"sync"
	"testing"

	"loop.example/malthouse/impl"
)

func recipe(lines ...string) []impl.RecPhase {
	var r []impl.RecPhase
	for _, line := range lines {
		r = append(r, phase(line))
	}
	return r
}

// brewing goes on from phase to phase, if all is well.
func brewing() []impl.RecPhase {
	return recipe("fill fill s1 malt 12 30 rest scrapped", "rest hold s1 . 3 9 look saved", "look test s1 . 0 8 go saved", "go move s1 s2 12 31 wash saved", "wash clean s1 . 0 20 good saved")
}

// forked parts at its first phase, and comes together again at its last but one; nothing leads to lone.
func forked() []impl.RecPhase {
	return recipe("a test s1 . 0 5 b c", "b hold s2 . 2 40 d d", "lone move s7 s8 1 999 d good", "c fill s3 malt 1 30 d e", "d move s5 s4 2 7 e saved", "e clean s4 . 0 3 scrapped saved")
}

// longest has as many phases as there can be, each as long as it can be, and as many slots as there can be.
func longest() []impl.RecPhase {
	var r []impl.RecPhase
	names := numbered("p", 13)
	names[12] = "good"
	for i := range 12 {
		r = append(r, impl.RecPhase{Name: names[i], Kind: impl.RecMove, A: "s" + strconv.Itoa(40-i), B: "r" + strconv.Itoa(10+i), N: 1000, Within: 1000, Then: names[i+1], Else: names[i+1]})
	}
	return r
}

// someRecipes is recipes that are ok, by what they are.
func someRecipes() map[string][]impl.RecPhase {
	all := map[string][]impl.RecPhase{
		"brewing": brewing(), "forked": forked(), "longest": longest(),
		"one phase":        recipe("a clean s . 0 1 good good"),
		"called like ends": recipe("a move good saved 1 1 b scrapped", "b fill scrapped good 1 1 good saved"),
		"never good":       recipe("a clean s . 0 1 b saved", "b clean s . 0 1 scrapped saved"),
		"two ends alone":   recipe("a clean s . 0 1 good scrapped", "b clean s . 0 1 saved saved"),
		"slots by bytes":   recipe("a move a b 1 1 b b", "b move a- - 1 1 c c", "c move 0 aa 1 1 d d", "d move z9 9z 1 1 e e", "e move z zz 1 1 good good"),
		"backwards":        recipe("z clean s . 0 1 y good", "y clean s . 0 2 x good", "x clean s . 0 4 good good"),
	}
	for what, p := range somePhases() {
		if impl.RecEnd(p.Then) == 0 || impl.RecEnd(p.Else) == 0 {
			p.Then, p.Else = "saved", "good"
		}
		all["alone: "+what] = []impl.RecPhase{p}
	}
	return all
}

func checkRecipe(t *testing.T, what string, r []impl.RecPhase, want bool) {
	t.Helper()
	if got := impl.RecOk(r); got != want {
		t.Errorf("%s: RecOk = %v; want %v: %+v", what, got, want, r)
	}
}

// told3 is what is told of a recipe from somewhere on: the slots, with a space between, the bound, and which ends can be.
type told3 struct {
	Slots string
	Bound int
	Ends  [3]bool
}

func told3Of(r []impl.RecPhase, from string) told3 {
	told := told3{Slots: strings.Join(impl.RecSlots(r, from), " "), Bound: impl.RecBound(r, from)}
	for i := range told.Ends {
		told.Ends[i] = impl.RecCan(r, from, i+1)
	}
	return told
}

func checkTold3(t *testing.T, what string, r []impl.RecPhase, from string, want told3) {
	t.Helper()
	if got := told3Of(r, from); got != want {
		t.Errorf("%s, from %q: %+v; want %+v: %+v", what, from, got, want, r)
	}
	for _, end := range []int{math.MinInt, -3, -1, 0, 4, 5, 8, 257, 1 + 1<<32, math.MaxInt} {
		if impl.RecCan(r, from, end) {
			t.Errorf("%s, from %q: it can come to the end %d: %+v", what, from, end, r)
		}
	}
}

// recipeByDefinition reads the chapter a second time.
func recipeByDefinition(r []impl.RecPhase) bool {
	isLater := map[string]bool{"good": true, "saved": true, "scrapped": true}
	for _, p := range slices.Backward(r) {
		// The ends stand there, too, and no phase is called like them.
		if !phaseByDefinition(p) || isLater[p.Name] || !isLater[p.Then] || !isLater[p.Else] {
			return false
		}
		isLater[p.Name] = true
	}
	return len(r) >= 1 && len(r) <= 12
}

// waysFrom is all ways of an ok recipe from a phase to an end: the phases that are passed, and then the end.
func waysFrom(r []impl.RecPhase, from string) [][]string {
	at := slices.IndexFunc(r, func(p impl.RecPhase) bool { return p.Name == from })
	if at < 0 {
		return [][]string{{from}}
	}
	var ways [][]string
	for _, next := range []string{r[at].Then, r[at].Else} {
		for _, way := range waysFrom(r, next) {
			ways = append(ways, append([]string{from}, way...))
		}
	}
	return ways
}

// told3ByWays is told by all ways that there are.
func told3ByWays(r []impl.RecPhase, from string) told3 {
	var told told3
	if !recipeByDefinition(r) {
		return told
	}
	phases := map[string]impl.RecPhase{}
	for _, p := range r {
		phases[p.Name] = p
	}
	slots := map[string]bool{}
	for _, way := range waysFrom(r, from) {
		sum, last := 0, len(way)-1
		for _, name := range way[:last] {
			p := phases[name]
			sum += p.Within
			slots[p.A] = true
			if p.Kind == 2 {
				slots[p.B] = true
			}
		}
		told.Bound = max(told.Bound, sum)
		if end := slices.Index([]string{"good", "saved", "scrapped"}, way[last]); end >= 0 {
			told.Ends[end] = true
		}
	}
	var names []string
	for slot := range slots {
		names = append(names, slot)
	}
	slices.Sort(names)
	told.Slots = strings.Join(names, " ")
	return told
}

// fromsOf is all from where something may be asked of a recipe: its phases, the ends, and what is neither.
func fromsOf(r []impl.RecPhase) []string {
	all := []string{"good", "saved", "scrapped", "", "none", "Good", "goods", "s1", "malt", "\xff", strings.Repeat("a", 10000)}
	for _, p := range r {
		all = append(all, p.Name, p.Name+" ", p.A, p.B, p.Then, p.Else)
	}
	slices.Sort(all)
	return slices.Compact(all)
}

// checkRecipeByReading asks for all that is told of a recipe.
func checkRecipeByReading(t *testing.T, what string, r []impl.RecPhase) bool {
	t.Helper()
	want := recipeByDefinition(r)
	checkRecipe(t, what, r, want)
	for _, from := range fromsOf(r) {
		checkTold3(t, what, r, from, told3ByWays(r, from))
	}
	return want
}

func TestRecipesThatAreOk(t *testing.T) {
	for what, r := range someRecipes() {
		checkRecipe(t, what, r, true)
		checkRecipeByReading(t, what, r)
	}
}

func TestHowManyPhases(t *testing.T) {
	for many := range 20 {
		var r []impl.RecPhase
		for i := range many {
			r = append(r, impl.RecPhase{Name: "p" + strconv.Itoa(i), Kind: impl.RecTest, A: "s", Within: 1, Then: "good", Else: "saved"})
		}
		checkRecipe(t, strconv.Itoa(many), r, many >= 1 && many <= 12)
		checkRecipeByReading(t, strconv.Itoa(many), r)
	}
	checkRecipe(t, "no list", nil, false)
	checkRecipe(t, "an empty list", []impl.RecPhase{}, false)
}

func TestPhasesOfOneName(t *testing.T) {
	for what, r := range someRecipes() {
		for i := range r {
			for j := range i {
				other := slices.Clone(r)
				other[i].Name = other[j].Name
				checkRecipe(t, what, other, false)
				checkRecipeByReading(t, what, other)
			}
		}
	}
	twice := recipe("a clean s . 0 1 good good", "a clean s . 0 1 good good")
	checkRecipe(t, "the same twice", twice, false)
	twice[1].Name = "b"
	checkRecipe(t, "the same but for the name", twice, true)
}

// Each phase of a recipe goes on, by Then and by Else, to each other one, to itself, to an end, and to what is neither.
func TestWhereToPhasesGoOn(t *testing.T) {
	for what, r := range someRecipes() {
		for i := range r {
			for j, p := range r {
				for _, goesOn := range []func(q *impl.RecPhase){func(q *impl.RecPhase) { q.Then = p.Name }, func(q *impl.RecPhase) { q.Else = p.Name }} {
					other := slices.Clone(r)
					goesOn(&other[i])
					checkRecipe(t, fmt.Sprint(what, ", ", i, " to ", j), other, j > i)
					checkTold3(t, what, other, r[i].Name, told3ByWays(other, r[i].Name))
				}
			}
			for text, isEnd := range map[string]bool{"good": true, "saved": true, "scrapped": true, "none": false, "": false, "Good": false, "good ": false, "goods": false, r[i].A + "-x": false} {
				for _, goesOn := range []func(q *impl.RecPhase){func(q *impl.RecPhase) { q.Then = text }, func(q *impl.RecPhase) { q.Else = text }} {
					other := slices.Clone(r)
					goesOn(&other[i])
					checkRecipe(t, fmt.Sprint(what, ", ", i, " to ", text), other, isEnd)
				}
			}
		}
	}
	// A slot, or a stuff, is nothing to go on to.
	for _, text := range []string{"s1", "s2", "malt"} {
		r := brewing()
		r[4].Then = text
		checkRecipe(t, text, r, false)
	}
}

// spoilPhases is ways in which a phase is not ok alone any more.
func spoilPhases() []func(p *impl.RecPhase) {
	return []func(p *impl.RecPhase){
		func(p *impl.RecPhase) { *p = impl.RecPhase{} }, func(p *impl.RecPhase) { p.Name = "" }, func(p *impl.RecPhase) { p.Name = "good" }, func(p *impl.RecPhase) { p.Name = "Fill" }, func(p *impl.RecPhase) { p.Name = "abcdefghi" },
		func(p *impl.RecPhase) { p.Kind = 0 }, func(p *impl.RecPhase) { p.Kind = 6 }, func(p *impl.RecPhase) { p.A = "" }, func(p *impl.RecPhase) { p.A = "S" }, func(p *impl.RecPhase) { p.B += " " },
		func(p *impl.RecPhase) { p.N = -1 }, func(p *impl.RecPhase) { p.N = 1001 }, func(p *impl.RecPhase) { p.Within = 0 }, func(p *impl.RecPhase) { p.Within = 1001 }, func(p *impl.RecPhase) { p.Then = "" }, func(p *impl.RecPhase) { p.Else = "\xff" },
	}
}

// spoiltRecipes is recipes that are not ok, each by one phase: the first, the last, or one between.
func spoiltRecipes() [][]impl.RecPhase {
	all := [][]impl.RecPhase{nil, append(longest(), phase("more clean s . 0 1 good good"))}
	for _, r := range [][]impl.RecPhase{brewing(), forked(), longest(), recipe("a clean s . 0 1 good good")} {
		for at := range r {
			for _, spoil := range spoilPhases() {
				other := slices.Clone(r)
				spoil(&other[at])
				all = append(all, other)
			}
		}
	}
	return all
}

func TestRecipesThatAreNotOk(t *testing.T) {
	for i, r := range spoiltRecipes() {
		checkRecipe(t, strconv.Itoa(i), r, false)
		if recipeByDefinition(r) {
			t.Errorf("%d is ok, by reading: %+v", i, r)
		}
		// Nothing is told, from an end neither.
		for _, from := range fromsOf(r) {
			checkTold3(t, strconv.Itoa(i), r, from, told3{})
		}
	}
}

func TestWhatIsToldOfRecipes(t *testing.T) {
	for what, one := range map[string]struct {
		recipe []impl.RecPhase
		told   map[string]told3
	}{
		"brewing": {brewing(), map[string]told3{
			"fill": {"s1 s2", 98, [3]bool{true, true, true}}, "rest": {"s1 s2", 68, [3]bool{true, true, false}}, "look": {"s1 s2", 59, [3]bool{true, true, false}},
			"go": {"s1 s2", 51, [3]bool{true, true, false}}, "wash": {"s1", 20, [3]bool{true, true, false}},
		}},
		"forked": {forked(), map[string]told3{
			"a": {"s1 s2 s3 s4 s5", 55, [3]bool{false, true, true}}, "b": {"s2 s4 s5", 50, [3]bool{false, true, true}}, "c": {"s3 s4 s5", 40, [3]bool{false, true, true}},
			"d": {"s4 s5", 10, [3]bool{false, true, true}}, "e": {"s4", 3, [3]bool{false, true, true}}, "lone": {"s4 s5 s7 s8", 1009, [3]bool{true, true, true}},
		}},
		"slots by bytes": {someRecipes()["slots by bytes"], map[string]told3{
			"a": {"- 0 9z a a- aa b z z9 zz", 5, [3]bool{true, false, false}}, "c": {"0 9z aa z z9 zz", 3, [3]bool{true, false, false}}, "e": {"z zz", 1, [3]bool{true, false, false}},
		}},
		"called like ends": {someRecipes()["called like ends"], map[string]told3{
			"a": {"good saved scrapped", 2, [3]bool{true, true, true}}, "b": {"scrapped", 1, [3]bool{true, true, false}},
		}},
	} {
		for from, want := range one.told {
			checkTold3(t, what, one.recipe, from, want)
		}
		for _, from := range []string{"", "none", "s1", "s4", "malt", "GOOD", "good ", "goo", strings.Repeat("good", 1<<16)} {
			checkTold3(t, what, one.recipe, from, told3{})
		}
		checkTold3(t, what, one.recipe, "good", told3{Ends: [3]bool{true, false, false}})
		checkTold3(t, what, one.recipe, "saved", told3{Ends: [3]bool{false, true, false}})
		checkTold3(t, what, one.recipe, "scrapped", told3{Ends: [3]bool{false, false, true}})
	}
}

func TestWhatIsToldOfTheLongestRecipe(t *testing.T) {
	r := longest()
	for i, p := range r {
		if got := impl.RecBound(r, p.Name); got != (12-i)*1000 {
			t.Errorf("from %s: %d", p.Name, got)
		}
		var want []string
		for j := i; j < 12; j++ {
			want = append(want, "r"+strconv.Itoa(10+j))
		}
		for j := 11; j >= i; j-- {
			want = append(want, "s"+strconv.Itoa(40-j))
		}
		if got := impl.RecSlots(r, p.Name); !slices.Equal(got, want) {
			t.Errorf("from %s: %q; want %q", p.Name, got, want)
		}
	}
}

// The way with the most phases need not be the longest one, nor the one by Then.
func TestTheLongestWay(t *testing.T) {
	for _, one := range []struct{ first, second, third, bound int }{{1, 1, 1, 3}, {1, 5, 9, 15}, {1, 9, 5, 15}, {1000, 1000, 1000, 3000}} {
		r := recipe("a clean s . 0 1 b c", "b clean s . 0 1 c good", "c clean s . 0 1 good good")
		r[0].Within, r[1].Within, r[2].Within = one.first, one.second, one.third
		for range 2 {
			checkTold3(t, "three in a row", r, "a", told3{"s", one.bound, [3]bool{true, false, false}})
			r[0].Then, r[0].Else = r[0].Else, r[0].Then
		}
	}
	short := recipe("a clean s . 0 1 b d", "b clean s . 0 1 c c", "c clean s . 0 1 good good", "d clean r . 0 3 saved saved")
	checkTold3(t, "few phases that take longer", short, "a", told3{"r s", 4, [3]bool{true, true, false}})
	short[3].Within = 1
	checkTold3(t, "more phases", short, "a", told3{"r s", 3, [3]bool{true, true, false}})
}

func TestAllShortRecipes(t *testing.T) {
	// Of three phases each goes on, by Then and by Else, to any of these.
	to := []string{"a", "b", "c", "good", "scrapped", "none"}
	ok := 0
	for bits := range 6 * 6 * 6 * 6 * 6 * 6 {
		r := recipe("a clean p . 0 1 good good", "b move q r 1 2 good good", "c fill s p 1 4 good good")
		for i, rest := 0, bits; i < 3; i++ {
			r[i].Then, r[i].Else = to[rest%6], to[rest/6%6]
			rest /= 36
		}
		want := recipeByDefinition(r)
		checkRecipe(t, "short", r, want)
		if !want && bits%7 > 0 {
			continue
		}
		ok += choose(want, 1, 0)
		for _, from := range append(to, "saved") {
			if got, told := told3Of(r, from), told3ByWays(r, from); got != told {
				t.Errorf("from %q: %+v; want %+v: %+v", from, got, told, r)
			}
		}
	}
	// To the ends, and to those behind it: four, three, two of each.
	if ok != 4*4*3*3*2*2 {
		t.Errorf("%d are ok", ok)
	}
}

func TestRecipesOfWhichOneThingIsChanged(t *testing.T) {
	ok, not := 0, 0
	for what, from := range map[string][]impl.RecPhase{"brewing": brewing(), "forked": forked(), "one": recipe("a hold s . 1 2 good saved")} {
		texts := append(textsOfAll(from), "good", "saved", "scrapped")
		eachWithOneChange(from, texts, func(r []impl.RecPhase) {
			want := recipeByDefinition(r)
			checkRecipe(t, "one thing of "+what, r, want)
			for _, at := range []string{"fill", "a", "go", "d", "e", "good", "none"} {
				checkTold3(t, "one thing of "+what, r, at, told3ByWays(r, at))
			}
			ok += choose(want, 1, 0)
			not += choose(want, 0, 1)
		})
	}
	if ok < 300 || not < 700 {
		t.Errorf("%d are ok, %d not", ok, not)
	}
}

// Promise 39.
func TestRecipesOfOnePhase(t *testing.T) {
	ends := []string{"good", "saved", "scrapped"}
	ok, not := 0, 0
	for what, from := range somePhases() {
		for _, then := range append(ends, from.Name, from.A, "none", "") {
			for _, other := range append(ends, from.Name, from.A, "none", "") {
				p := from
				p.Then, p.Else = then, other
				eachWithOneChange(p, append(ends, "", "A", "z", "abcdefghi"), func(p impl.RecPhase) {
					want := impl.RecPhaseOk(p) && slices.Contains(ends, p.Then) && slices.Contains(ends, p.Else)
					checkRecipe(t, what, []impl.RecPhase{p}, want)
					ok += choose(want, 1, 0)
					not += choose(want, 0, 1)
				})
			}
		}
	}
	if ok < 2000 || not < 10000 {
		t.Errorf("%d are ok, %d not", ok, not)
	}
}

// drawnPhase draws one that is ok alone, and goes on to some of these.
func drawnPhase(dice *rand.Rand, name string, to []string) impl.RecPhase {
	slots := []string{"s1", "s2", "s3", "good", "a", "-"}
	p := impl.RecPhase{Name: name, Kind: 1 + dice.Intn(5), Within: 1 + dice.Intn(choose(dice.Intn(8) == 0, 1000, 12))}
	two := dice.Perm(len(slots))
	p.A, p.Then, p.Else = slots[two[0]], to[dice.Intn(len(to))], to[dice.Intn(len(to))]
	switch p.Kind {
	case impl.RecFill:
		p.B, p.N = "malt", 1+dice.Intn(1000)
	case impl.RecMove:
		p.B, p.N = slots[two[1]], 1+dice.Intn(1000)
	case impl.RecHold:
		p.N = 1 + dice.Intn(p.Within)
	}
	return p
}

// drawnRecipe draws one that is ok; its phases go on to near ones, to far ones, or to any.
func drawnRecipe(dice *rand.Rand) []impl.RecPhase {
	ends := []string{"good", "saved", "scrapped"}
	ends = ends[:1+dice.Intn(3)]
	near := dice.Intn(4)
	var r []impl.RecPhase
	var later []string
	for _, i := range dice.Perm(100)[:1+dice.Intn(12)] {
		to := slices.Clone(ends)
		if near > 0 && len(later) > 0 {
			to = slices.Concat(ends[:1], later[:min(near, len(later))], later[:min(near, len(later))])
		} else if len(later) > 0 {
			to = slices.Concat(ends[:1], later)
		}
		p := drawnPhase(dice, "p"+strconv.Itoa(i), to)
		r, later = slices.Insert(r, 0, p), slices.Insert(later, 0, p.Name)
	}
	return r
}

// Promises 35 and 36.
func TestDrawnRecipes(t *testing.T) {
	dice := rand.New(rand.NewSource(35))
	parted, neverGood, lone, long := 0, 0, 0, 0
	for range 1500 {
		r := drawnRecipe(dice)
		checkRecipe(t, "drawn", r, true)
		if !checkRecipeByReading(t, "drawn", r) {
			t.Errorf("not ok, by reading: %+v", r)
		}
		for _, p := range r {
			if told := told3Of(r, p.Name); told.Ends == [3]bool{} {
				t.Errorf("from %s it comes to no end: %+v", p.Name, r)
			}
		}
		ways := waysFrom(r, r[0].Name)
		passed := slices.Concat(ways...)
		parted += choose(len(ways) > 10, 1, 0)
		neverGood += choose(!impl.RecCan(r, r[0].Name, 1), 1, 0)
		lone += choose(slices.ContainsFunc(r, func(p impl.RecPhase) bool { return !slices.Contains(passed, p.Name) }), 1, 0)
		long += choose(len(r) == 12, 1, 0)
	}
	if parted < 300 || neverGood < 10 || lone < 300 || long < 50 {
		t.Errorf("%d part, %d are never good, %d have phases that nothing leads to, %d are long", parted, neverGood, lone, long)
	}
}

// A drawn recipe of which something was changed is ok or not as it reads.
func TestDrawnRecipesThatWereChanged(t *testing.T) {
	dice := rand.New(rand.NewSource(36))
	ok, not := 0, 0
	for range 3000 {
		r := drawnRecipe(dice)
		for range 1 + dice.Intn(2) {
			i, j := dice.Intn(len(r)), dice.Intn(len(r))
			switch dice.Intn(6) {
			case 0:
				r[i], r[j] = r[j], r[i]
			case 1:
				r[i].Then = r[j].Name
			case 2:
				r[i].Else = r[j].Name
			case 3:
				r[i].Name = choose(dice.Intn(2) == 0, r[j].Name, "saved")
			case 4:
				r[i].Kind, r[i].N = 1+dice.Intn(5), dice.Intn(3)
			case 5:
				r = slices.Delete(r, i, i+1)
			}
			if len(r) == 0 {
				break
			}
		}
		want := checkRecipeByReading(t, "changed", r)
		ok += choose(want, 1, 0)
		not += choose(want, 0, 1)
	}
	if ok < 500 || not < 500 {
		t.Errorf("%d are ok, %d not", ok, not)
	}
}

// asking3 is what is asked of a recipe.
type asking3 struct {
	Recipe []impl.RecPhase
	From   string
}

func TestRecipesAreNotWrittenInto(t *testing.T) {
	all := append(spoiltRecipes(), []impl.RecPhase{})
	for _, r := range someRecipes() {
		all = append(all, r)
	}
	for i, r := range all {
		for _, from := range fromsOf(r) {
			one := withRoom(asking3{r, from})
			was := withWhatIsBehind(one)
			first := told3Of(one.Recipe, one.From)
			checkRecipe(t, strconv.Itoa(i), one.Recipe, recipeByDefinition(r))
			checkTold3(t, "a second time", one.Recipe, one.From, first)
			checkTold3(t, "without room", r, from, first)
			if !reflect.DeepEqual(withWhatIsBehind(one), was) {
				t.Errorf("the recipe became %+v", withWhatIsBehind(one))
			}
		}
	}
}

func TestSlotsAreNewMemory(t *testing.T) {
	for what, r := range someRecipes() {
		for _, p := range r {
			one := withRoom(asking3{r, strings.Clone(p.Name)})
			slots, again := impl.RecSlots(one.Recipe, one.From), impl.RecSlots(one.Recipe, one.From)
			checkOwnMemory(t, what, slots, one)
			checkOwnMemory(t, what, again, one, slots)
			checkOwnLists(t, what, slots, one)
			checkOwnLists(t, what, again, one, slots)
			spoilTexts(slots)
			checkTold3(t, what+", behind an answer that was written into", one.Recipe, one.From, told3ByWays(r, p.Name))
		}
	}
}

func TestRecipesOfVeryLongLists(t *testing.T) {
	long := make([]impl.RecPhase, 200000)
	for i := range long {
		long[i] = impl.RecPhase{Name: "p" + strconv.Itoa(i), Kind: impl.RecTest, A: "s", Within: 1, Then: "good", Else: "saved"}
	}
	for what, r := range map[string][]impl.RecPhase{"many": long, "nothing for long": make([]impl.RecPhase, 200000), "one for long": slices.Repeat(long[:1], 200000)} {
		checkRecipe(t, what, r, false)
		for _, from := range []string{"p0", "p199999", "", "good"} {
			checkTold3(t, what, r, from, told3{})
		}
	}
	names := brewing()
	names[2].Then = strings.Repeat("go", 1<<20)
	checkTold3(t, "a long name", names, "fill", told3{})
	checkTold3(t, "from a long name", brewing(), strings.Repeat("fill", 1<<20), told3{})
}

// What one call was given must not be seen in the next one, nor in one beside it.
func TestRecipesKeepNothing(t *testing.T) {
	all, wrong := someRecipes(), spoiltRecipes()
	var callers sync.WaitGroup
	for range 8 {
		callers.Go(func() {
			for what, r := range all {
				for i, p := range r {
					want := told3ByWays(r, p.Name)
					checkTold3(t, what, wrong[i*7%len(wrong)], p.Name, told3{})
					checkTold3(t, what, r, p.Name, want)
					checkRecipe(t, what, r, true)
				}
			}
		})
	}
	callers.Wait()
}
