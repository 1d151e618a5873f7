package tests

import (
	"fmt"
	"maps"
	"math"
	"math/rand"
	"reflect"
	"slices"
	"strconv"
	"strings"
	"sync"
	"testing"

	"loop.example/malthouse/impl"
)

// slotted is written as slots with their things: "s1=tun s2=keg".
func slotted(text string) []impl.RunSlot {
	var all []impl.RunSlot
	for _, field := range strings.Fields(text) {
		slot, thing, _ := strings.Cut(field, "=")
		all = append(all, impl.RunSlot{Slot: slot, Thing: thing})
	}
	return all
}

// batchOf begins: it waits at the first phase.
func batchOf(name string, r []impl.RecPhase, slots string) impl.RunBatch {
	return impl.RunBatch{Name: name, Recipe: r, Slots: slotted(slots), At: r[0].Name, Since: -1, Start: 1}
}

// otherBatch is a batch in memory of its own of which something is changed.
func otherBatch(b impl.RunBatch, change func(b *impl.RunBatch)) impl.RunBatch {
	other := copied(b)
	change(&other)
	return other
}

// batchAt is a batch that is at a phase for so many ticks.
func batchAt(b impl.RunBatch, at string, since int) impl.RunBatch {
	return otherBatch(b, func(b *impl.RunBatch) { b.At, b.Since = at, since })
}

func brewBatch() impl.RunBatch {
	return batchOf("a", brewing(), "s1=tun s2=keg")
}

// forkedBatch has slots whose things go another way than they do; s7 and s8 of its recipe are none of its slots.
func forkedBatch() impl.RunBatch {
	return batchOf("fork", forked(), "s1=vat s2=tun s3=pan s4=keg s5=jar")
}

// longestBatch has as many slots as there can be.
func longestBatch() impl.RunBatch {
	b := impl.RunBatch{Name: "zzzzzzzz", Recipe: longest(), At: "p10", Since: 999, Start: math.MaxInt}
	things := numbered("t", 24)
	slices.Reverse(things)
	for i, slot := range append(numbered("r", 12), numbered("s", 31)[19:]...) {
		b.Slots = append(b.Slots, impl.RunSlot{Slot: slot, Thing: things[i]})
	}
	return b
}

// someBatches is batches that are ok, by what they are.
func someBatches() map[string]impl.RunBatch {
	return map[string]impl.RunBatch{
		"brewing":             brewBatch(),
		"forked":              forkedBatch(),
		"longest":             longestBatch(),
		"one phase":           batchOf("b", recipe("a clean s . 0 1 good good"), "s=t"),
		"one phase, going on": batchAt(batchOf("b", recipe("a clean s . 0 1 good good"), "s=t"), "a", 0),
		"a later one":         batchAt(brewBatch(), "wash", 19),
		"between":             batchAt(brewBatch(), "look", 4),
		"where nothing leads": batchAt(forkedBatch(), "lone", 998),
		"called like ends":    batchOf("good", someRecipes()["called like ends"], "good=saved saved=scrapped scrapped=good"),
		"called like slots":   batchOf("s1", brewing(), "s1=s2 s2=s1"),
		"slots by bytes":      batchOf("-", someRecipes()["slots by bytes"], "-=e 0=d 9z=c a=b a-=aa aa=a b=a- z=9 z9=0 zz=-"),
		"backwards":           batchAt(batchOf("0", someRecipes()["backwards"], "s=zzzzzzzz"), "x", 3),
	}
}

// spoiltBatches is batches that are not ok, by what is wrong with them.
func spoiltBatches() map[string]impl.RunBatch {
	all := map[string]impl.RunBatch{"nothing": {}}
	for what, change := range map[string]func(b *impl.RunBatch){
		"no name":              func(b *impl.RunBatch) { b.Name = "" },
		"a long name":          func(b *impl.RunBatch) { b.Name = "abcdefghi" },
		"no recipe":            func(b *impl.RunBatch) { b.Recipe = nil },
		"no recipe, no slots":  func(b *impl.RunBatch) { b.Recipe, b.Slots = nil, nil },
		"a recipe that is not": func(b *impl.RunBatch) { b.Recipe[4].Then = "fill" },
		"no slots":             func(b *impl.RunBatch) { b.Slots = nil },
		"the first slot alone": func(b *impl.RunBatch) { b.Slots = b.Slots[:1] },
		"the last slot alone":  func(b *impl.RunBatch) { b.Slots = b.Slots[1:] },
		"a slot more":          func(b *impl.RunBatch) { b.Slots = append(b.Slots, slotted("s3=vat")...) },
		"a slot twice":         func(b *impl.RunBatch) { b.Slots = append(b.Slots, b.Slots[1]) },
		"slots turned":         func(b *impl.RunBatch) { slices.Reverse(b.Slots) },
		"another slot":         func(b *impl.RunBatch) { b.Slots[1].Slot = "s3" },
		"a slot without name":  func(b *impl.RunBatch) { b.Slots[0].Slot = "" },
		"no thing":             func(b *impl.RunBatch) { b.Slots[0].Thing = "" },
		"a thing that is none": func(b *impl.RunBatch) { b.Slots[1].Thing = "Keg" },
		"one thing twice":      func(b *impl.RunBatch) { b.Slots[1].Thing = "tun" },
		"at no phase":          func(b *impl.RunBatch) { b.At = "none" },
		"at nothing":           func(b *impl.RunBatch) { b.At = "" },
		"at an end":            func(b *impl.RunBatch) { b.At = "good" },
		"at a slot":            func(b *impl.RunBatch) { b.At = "s1" },
		"Since of -2":          func(b *impl.RunBatch) { b.Since = -2 },
		"Since of Within":      func(b *impl.RunBatch) { b.Since = 30 },
		"Start of 0":           func(b *impl.RunBatch) { b.Start = 0 },
		"Start of -1":          func(b *impl.RunBatch) { b.Start = -1 },
	} {
		all[what] = otherBatch(brewBatch(), change)
	}
	return all
}

// fromsOfBatch is all from where the things of a batch may be asked for.
func fromsOfBatch(b impl.RunBatch) []string {
	all := append(fromsOf(b.Recipe), b.Name, b.At)
	for _, one := range b.Slots {
		all = append(all, one.Slot, one.Thing)
	}
	slices.Sort(all)
	return slices.Compact(all)
}

// checkBatch asks whether a batch is ok; of one that is not nothing is told.
func checkBatch(t *testing.T, what string, b impl.RunBatch, want bool) {
	t.Helper()
	if got := impl.RunBatchOk(b); got != want {
		t.Errorf("%s: RunBatchOk = %v; want %v: %+v", what, got, want, b)
	}
	if want {
		return
	}
	checkOwn(t, what, b)
	for _, from := range []string{b.At, "", "fill", "good"} {
		checkThings(t, what, b, from)
	}
}

func checkThings(t *testing.T, what string, b impl.RunBatch, from string, want ...string) {
	t.Helper()
	if got := impl.RunThings(b, from); !slices.Equal(got, want) {
		t.Errorf("%s: RunThings from %q = %q; want %q: %+v", what, from, got, want, b)
	}
}

func checkOwn(t *testing.T, what string, b impl.RunBatch, want ...string) {
	t.Helper()
	if got := impl.RunOwn(b); !slices.Equal(got, want) {
		t.Errorf("%s: RunOwn = %q; want %q: %+v", what, got, want, b)
	}
}

func TestRunBatchesThatAreOk(t *testing.T) {
	for what, b := range someBatches() {
		checkBatch(t, what, b, true)
	}
}

func TestRunBatchesThatAreNot(t *testing.T) {
	for what, b := range spoiltBatches() {
		checkBatch(t, what, b, false)
		for _, from := range fromsOfBatch(b) {
			checkThings(t, what, b, from)
		}
	}
}

func TestNamesInRunBatches(t *testing.T) {
	eachText(func(text string, isName bool) {
		for _, b := range []impl.RunBatch{brewBatch(), forkedBatch()} {
			checkBatch(t, "Name", otherBatch(b, func(b *impl.RunBatch) { b.Name = text }), isName)
			for i := range b.Slots {
				checkBatch(t, "Thing", otherBatch(b, func(b *impl.RunBatch) { b.Slots[i].Thing = text }), isName)
				// A slot is called as in the recipe, whatever is a name.
				checkBatch(t, "Slot", otherBatch(b, func(b *impl.RunBatch) { b.Slots[i].Slot = text }), false)
			}
		}
		one := batchOf("b", recipe("a clean s . 0 1 good good"), "s=t")
		one.Recipe[0].A, one.Slots[0].Slot = text, text
		checkBatch(t, "the only slot", one, isName)
	})
}

func TestRecipesOfRunBatches(t *testing.T) {
	for _, b := range []impl.RunBatch{brewBatch(), forkedBatch(), longestBatch()} {
		for at := range b.Recipe {
			for i, spoil := range spoilPhases() {
				checkBatch(t, fmt.Sprint("phase ", at, " spoilt by ", i), otherBatch(b, func(b *impl.RunBatch) { spoil(&b.Recipe[at]) }), false)
			}
		}
	}
	for i, r := range spoiltRecipes() {
		b := brewBatch()
		b.Recipe = r
		checkBatch(t, "recipe "+strconv.Itoa(i), b, false)
		b.Slots = nil
		checkBatch(t, "recipe without slots "+strconv.Itoa(i), b, false)
	}
	// An ok recipe of other slots asks for these.
	b := brewBatch()
	b.Recipe[3].B = "s3"
	checkBatch(t, "another slot in the recipe", b, false)
	b.Slots[1].Slot = "s3"
	checkBatch(t, "and in the batch", b, true)
}

func TestSlotsOfRunBatches(t *testing.T) {
	for what, b := range someBatches() {
		spare := impl.RunSlot{Slot: "m", Thing: "spare"}
		for i := range len(b.Slots) + 1 {
			checkBatch(t, what+", one more", otherBatch(b, func(b *impl.RunBatch) { b.Slots = slices.Insert(b.Slots, i, spare) }), false)
		}
		for i := range b.Slots {
			checkBatch(t, what+", one lacking", otherBatch(b, func(b *impl.RunBatch) { b.Slots = slices.Delete(b.Slots, i, i+1) }), false)
			checkBatch(t, what+", one of another name", otherBatch(b, func(b *impl.RunBatch) { b.Slots[i].Slot = "m" }), false)
			checkBatch(t, what+", one twice", otherBatch(b, func(b *impl.RunBatch) { b.Slots = slices.Insert(b.Slots, i, b.Slots[i]) }), false)
			checkBatch(t, what+", another thing", otherBatch(b, func(b *impl.RunBatch) { b.Slots[i].Thing = "spare" }), true)
			for j := range i {
				checkBatch(t, what+", turned", otherBatch(b, func(b *impl.RunBatch) { b.Slots[i], b.Slots[j] = b.Slots[j], b.Slots[i] }), false)
				checkBatch(t, what+", things turned", otherBatch(b, func(b *impl.RunBatch) {
					b.Slots[i].Thing, b.Slots[j].Thing = b.Slots[j].Thing, b.Slots[i].Thing
				}), true)
				checkBatch(t, what+", two the same", otherBatch(b, func(b *impl.RunBatch) { b.Slots[i].Thing = b.Slots[j].Thing }), false)
				checkBatch(t, what+", two of one name", otherBatch(b, func(b *impl.RunBatch) { b.Slots[i].Slot = b.Slots[j].Slot }), false)
			}
		}
	}
	// What only a phase uses that never comes behind the first is no slot of a batch, wherever it is.
	for _, at := range []string{"a", "lone"} {
		more := batchAt(forkedBatch(), at, -1)
		more.Slots = append(more.Slots, slotted("s7=p s8=q")...)
		checkBatch(t, "slots of all phases", more, false)
	}
	// From a later phase on fewer would do, but all are asked for.
	later := batchAt(brewBatch(), "wash", -1)
	later.Slots = later.Slots[:1]
	checkBatch(t, "slots of the rest", later, false)
}

func TestStartOfRunBatches(t *testing.T) {
	for what, b := range someBatches() {
		for _, start := range append(farNumbers(), 999999, 1000000, 1000001) {
			checkBatch(t, what, otherBatch(b, func(b *impl.RunBatch) { b.Start = start }), start >= 1)
		}
	}
}

func TestWhereRunBatchesAre(t *testing.T) {
	for what, b := range someBatches() {
		b.Since = -1
		for _, from := range fromsOfBatch(b) {
			isPhase := slices.ContainsFunc(b.Recipe, func(p impl.RecPhase) bool { return p.Name == from })
			checkBatch(t, what, batchAt(b, from, -1), isPhase)
			checkBatch(t, what, batchAt(b, from, 0), isPhase)
		}
		for _, name := range []string{"good", "saved", "scrapped"} {
			checkBatch(t, what, batchAt(b, name, -1), false)
		}
	}
}

func TestSinceOfRunBatches(t *testing.T) {
	for what, b := range someBatches() {
		for _, p := range b.Recipe {
			for _, since := range append(farNumbers(), -2, p.Within-2, p.Within-1, p.Within, p.Within+1) {
				checkBatch(t, what, batchAt(b, p.Name, since), since >= -1 && since < p.Within)
			}
		}
	}
	// Within is that of the phase at which it is, whatever the others have.
	b := brewBatch()
	for i, within := range []int{1, 1000, 3, 2, 500} {
		b.Recipe[i].Within = choose(b.Recipe[i].Kind == impl.RecHold, max(3, within), within)
	}
	for _, p := range b.Recipe {
		for since := -2; since <= 1001; since++ {
			checkBatch(t, p.Name, batchAt(b, p.Name, since), since >= -1 && since < p.Within)
		}
	}
}

func TestThingsOfRunBatches(t *testing.T) {
	for what, one := range map[string]struct {
		batch impl.RunBatch
		told  map[string]string
	}{
		"brewing": {brewBatch(), map[string]string{"fill": "keg tun", "rest": "keg tun", "look": "keg tun", "go": "keg tun", "wash": "tun"}},
		"forked":  {forkedBatch(), map[string]string{"a": "jar keg pan tun vat", "b": "jar keg tun", "c": "jar keg pan", "d": "jar keg", "e": "keg"}},
		"called like ends": {someBatches()["called like ends"], map[string]string{
			"a": "good saved scrapped", "b": "good"}},
		"slots by bytes": {someBatches()["slots by bytes"], map[string]string{"a": "- 0 9 a a- aa b c d e", "b": "- 0 9 a aa c d e", "c": "- 0 9 a c d", "d": "- 0 9 c", "e": "- 9"}},
		"one phase":      {someBatches()["one phase"], map[string]string{"a": "t"}},
	} {
		// Wherever it is, and for how long, the same is told.
		for _, p := range one.batch.Recipe {
			for _, since := range []int{-1, 0, p.Within - 1} {
				b := batchAt(one.batch, p.Name, since)
				for from, things := range one.told {
					checkThings(t, what, b, from, strings.Fields(things)...)
				}
				for _, from := range []string{"good", "saved", "scrapped", "", "none", "Fill", "fill ", "s1", "s2", "s=t", "t", "tun", "keg", strings.Repeat("a", 1<<16)} {
					checkThings(t, what, b, from)
				}
			}
		}
	}
}

// Slots of a phase that never comes behind the first are none of the batch's: together they count as one empty text.
func TestThingsOfSlotsThatAreNone(t *testing.T) {
	b := forkedBatch()
	checkThings(t, "two that are none, and two that are", b, "lone", "", "jar", "keg")
	checkOwn(t, "two that are none", batchAt(b, "lone", -1), "")
	checkOwn(t, "two that are none, going on", batchAt(b, "lone", 5), "")
	for _, one := range []struct{ line, things, own string }{
		{"lone move s7 s8 1 999 good saved", ".", "."},
		{"lone move s7 s1 1 999 good saved", ". vat", ". vat"},
		{"lone move s4 s7 1 999 good saved", ". keg", ". keg"},
		{"lone move s4 s7 1 999 d e", ". jar keg", ". keg"},
		{"lone move s1 s2 1 999 good saved", "tun vat", "tun vat"},
		{"lone clean s7 . 0 999 good saved", ".", "."},
		{"lone clean s7 . 0 999 e d", ". jar keg", "."},
		{"lone fill s9 malt 1 999 c c", ". jar keg pan", "."},
		{"lone fill s3 s7 1 999 good good", "pan", "pan"},
		{"lone hold s2 . 1 999 good good", "tun", "tun"},
	} {
		c := otherBatch(b, func(b *impl.RunBatch) { b.Recipe[2] = phase(one.line) })
		c = batchAt(c, "lone", 0)
		checkBatch(t, one.line, c, true)
		checkThings(t, one.line, c, "lone", strings.Split(strings.ReplaceAll(one.things, ".", ""), " ")...)
		checkOwn(t, one.line, c, strings.Split(strings.ReplaceAll(one.own, ".", ""), " ")...)
		checkThings(t, "from the first one on", c, "a", "jar", "keg", "pan", "tun", "vat")
	}
	// Two phases that never come, the one behind the other.
	r := recipe("a clean s1 . 0 1 good good", "b move s2 s3 1 1 c c", "c move s4 s1 1 1 good good")
	two := batchOf("two", r, "s1=tun")
	checkThings(t, "one behind the other", two, "b", "", "tun")
	checkThings(t, "the other alone", two, "c", "", "tun")
	checkOwn(t, "the one", batchAt(two, "b", 0), "")
	checkOwn(t, "the other", batchAt(two, "c", 0), "", "tun")
}

// What a batch needs now hangs on the kind of its phase, and goes by the things, not by the slots.
func TestOwnThingsOfRunBatches(t *testing.T) {
	for _, one := range []struct{ at, own string }{{"fill", "tun"}, {"rest", "tun"}, {"look", "tun"}, {"go", "keg tun"}, {"wash", "tun"}} {
		for _, since := range []int{-1, 0, 7} {
			checkOwn(t, one.at, batchAt(brewBatch(), one.at, since), strings.Fields(one.own)...)
		}
	}
	for _, one := range []struct{ at, own string }{{"a", "vat"}, {"b", "tun"}, {"c", "pan"}, {"d", "jar keg"}, {"e", "keg"}} {
		checkOwn(t, one.at, batchAt(forkedBatch(), one.at, -1), strings.Fields(one.own)...)
	}
	for _, line := range []string{"p fill s1 s2 1 9 q q", "p hold s1 . 1 9 q q", "p clean s1 . 0 9 q q", "p test s1 . 0 9 q q"} {
		// B of a fill is a stuff, also if a slot is called so.
		b := batchOf("b", recipe(line, "q move s1 s2 1 1 good good"), "s1=x s2=y")
		checkOwn(t, line, b, "x")
		checkThings(t, line, b, "p", "x", "y")
	}
	for _, one := range []struct{ line, slots, own string }{
		{"p move s1 s2 1 9 good good", "s1=x s2=y", "x y"}, {"p move s1 s2 1 9 good good", "s1=y s2=x", "x y"},
		{"p move s2 s1 1 9 good good", "s1=x s2=y", "x y"}, {"p move s2 s1 1 9 good good", "s1=y s2=x", "x y"},
		{"p move s2 s1 1 9 good good", "s1=a- s2=a", "a a-"}, {"p move s2 s1 1 9 good good", "s1=aa s2=a0", "a0 aa"},
	} {
		checkOwn(t, one.line+" "+one.slots, batchOf("b", recipe(one.line), one.slots), strings.Fields(one.own)...)
	}
	b := longestBatch()
	for i, p := range b.Recipe {
		// r10 is t33, r11 is t32, .., and s40 is the last, t10.
		checkOwn(t, p.Name, batchAt(b, p.Name, 0), "t"+strconv.Itoa(10+i), "t"+strconv.Itoa(33-i))
		checkThings(t, p.Name, b, p.Name, slices.Concat(numbered("t", 24)[i:12], numbered("t", 24-i)[12:])...)
	}
}

// slotsByDefinition is the slots of a phase of an ok recipe, and of all that may come behind it: as each goes on to later ones alone, these are marked when they are come to.
func slotsByDefinition(r []impl.RecPhase, from string) []string {
	mayCome, isUsed := map[string]bool{from: true}, map[string]bool{}
	for _, p := range r {
		if mayCome[p.Name] {
			mayCome[p.Then], mayCome[p.Else], isUsed[p.A] = true, true, true
		}
		if mayCome[p.Name] && p.Kind == 2 {
			isUsed[p.B] = true
		}
	}
	return slices.Sorted(maps.Keys(isUsed))
}

// batchByDefinition, thingsByDefinition and ownByDefinition read the chapter a second time.
func batchByDefinition(b impl.RunBatch) bool {
	if !recipeByDefinition(b.Recipe) || !nameByDefinition(b.Name) || b.Start < 1 {
		return false
	}
	var slots []string
	had := map[string]bool{}
	for _, one := range b.Slots {
		if !nameByDefinition(one.Thing) || had[one.Thing] {
			return false
		}
		slots, had[one.Thing] = append(slots, one.Slot), true
	}
	if !slices.Equal(slots, slotsByDefinition(b.Recipe, b.Recipe[0].Name)) {
		return false
	}
	for _, p := range b.Recipe {
		if p.Name == b.At {
			return b.Since == -1 || b.Since >= 0 && b.Since <= p.Within-1
		}
	}
	return false
}

// things1 is the things of some slots of a batch, each once.
func things1(b impl.RunBatch, slots []string) []string {
	var all []string
	for _, slot := range slots {
		thing := ""
		for _, one := range b.Slots {
			if one.Slot == slot {
				thing = one.Thing
			}
		}
		if !slices.Contains(all, thing) {
			all = append(all, thing)
		}
	}
	slices.Sort(all)
	return all
}

func thingsByDefinition(b impl.RunBatch, from string) []string {
	if !batchByDefinition(b) {
		return nil
	}
	return things1(b, slotsByDefinition(b.Recipe, from))
}

func ownByDefinition(b impl.RunBatch) []string {
	if batchByDefinition(b) {
		for _, p := range b.Recipe {
			if p.Name == b.At && p.Kind == 2 {
				return things1(b, []string{p.A, p.B})
			} else if p.Name == b.At {
				return things1(b, []string{p.A})
			}
		}
	}
	return nil
}

// checkBatchByReading asks all that is told of a batch.
func checkBatchByReading(t *testing.T, what string, b impl.RunBatch, froms ...string) bool {
	t.Helper()
	want := batchByDefinition(b)
	checkBatch(t, what, b, want)
	checkOwn(t, what, b, ownByDefinition(b)...)
	for _, from := range froms {
		checkThings(t, what, b, from, thingsByDefinition(b, from)...)
	}
	return want
}

func TestRunBatchesByReading(t *testing.T) {
	for what, b := range someBatches() {
		for _, p := range b.Recipe {
			checkBatchByReading(t, what, batchAt(b, p.Name, p.Within-1), fromsOfBatch(b)...)
		}
	}
	for what, b := range spoiltBatches() {
		checkBatchByReading(t, what, b, fromsOfBatch(b)...)
	}
}

func TestRunBatchesOfWhichOneThingIsChanged(t *testing.T) {
	for what, from := range map[string]impl.RunBatch{
		"brewing": brewBatch(), "forked": batchAt(forkedBatch(), "d", 3), "lone": batchAt(forkedBatch(), "lone", -1),
		"one phase": someBatches()["one phase"], "called like ends": someBatches()["called like ends"],
	} {
		counted := counts{}
		texts := append(textsOfAll(from), "good", "saved", "scrapped")
		eachWithOneChange(from, texts, func(b impl.RunBatch) {
			isOk := checkBatchByReading(t, "one thing of "+what, b, b.At, from.At, "d", "lone", "good", "")
			counted.note("ok", isOk)
			counted.note("not ok", !isOk)
		})
		checkCounted(t, counted, 20, "ok", "not ok")
	}
}

func TestRunBatchesOfWhichTwoThingsAreChanged(t *testing.T) {
	from := batchOf("b", recipe("p move s1 s2 1 2 q good", "q clean s1 . 0 1 good good"), "s1=x s2=y")
	texts := []string{"", "b", "p", "q", "s1", "s2", "x", "y", "good", "A"}
	counted := counts{}
	eachWithOneChange(from, texts, func(b impl.RunBatch) {
		eachWithOneChange(b, texts, func(b impl.RunBatch) {
			isOk := checkBatchByReading(t, "two things", b, "p", "q")
			counted.note("ok", isOk)
			counted.note("not ok", !isOk)
		})
	})
	checkCounted(t, counted, 1000, "ok", "not ok")
}

// drawnBatch draws one that is ok; its things are some of these, as many as it has slots.
func drawnBatch(dice *rand.Rand, name string, things []string) impl.RunBatch {
	r := drawnRecipe(dice)
	p := r[dice.Intn(len(r))]
	b := impl.RunBatch{Name: name, Recipe: r, At: p.Name, Since: -1, Start: 1 + dice.Intn(9)}
	if dice.Intn(2) == 0 {
		b.Since = dice.Intn(p.Within)
	}
	mixed := dice.Perm(len(things))
	for i, slot := range slotsByDefinition(r, r[0].Name) {
		b.Slots = append(b.Slots, impl.RunSlot{Slot: slot, Thing: things[mixed[i]]})
	}
	return b
}

func TestDrawnRunBatches(t *testing.T) {
	dice := rand.New(rand.NewSource(61))
	counted := counts{}
	for range 1500 {
		b := drawnBatch(dice, "b", []string{"a", "a-", "aa", "t0", "t00", "t1", "z", "-"})
		if !checkBatchByReading(t, "drawn", b, fromsOf(b.Recipe)...) {
			t.Errorf("not ok, by reading: %+v", b)
		}
		own := impl.RunOwn(b)
		counted.note("waits", b.Since == -1)
		counted.note("goes on", b.Since >= 0)
		counted.note("slots that are none", slices.Contains(own, ""))
		counted.note("two own", len(own) == 2)
		counted.note("needs less than at first", len(impl.RunThings(b, b.At)) < len(b.Slots))
	}
	checkCounted(t, counted, 50, "waits", "goes on", "slots that are none", "two own", "needs less than at first")
}

// isAmong says whether all of some names are among others.
func isAmong(some, others []string) bool {
	return !slices.ContainsFunc(some, func(name string) bool { return !slices.Contains(others, name) })
}

// checkPromise51 asks from each phase to those that it goes on to.
func checkPromise51(t *testing.T, b impl.RunBatch) counts {
	t.Helper()
	counted := counts{}
	for _, p := range b.Recipe {
		here := impl.RunThings(b, p.Name)
		for _, next := range []string{p.Then, p.Else} {
			there := impl.RunThings(b, next)
			if !isAmong(there, here) {
				t.Errorf("from %s to %s: %q becomes %q: %+v", p.Name, next, here, there, b)
			}
			counted.note("less", len(there) < len(here))
			counted.note("stays", len(there) == len(here))
		}
		at := batchAt(b, p.Name, -1)
		own := impl.RunOwn(at)
		if !isAmong(own, here) || len(own) == 0 || !slices.Equal(impl.RunThings(at, at.At), here) {
			t.Errorf("at %s: %q of %q: %+v", p.Name, own, here, b)
		}
	}
	return counted
}

// Promise 51.
func TestNeedsBecomeLess(t *testing.T) {
	for _, b := range someBatches() {
		checkPromise51(t, b)
	}
	sum := counts{}
	dice := rand.New(rand.NewSource(51))
	for range 3000 {
		b := drawnBatch(dice, "b", numbered("t", 6))
		for what, often := range checkPromise51(t, b) {
			sum[what] += often
		}
	}
	checkCounted(t, sum, 1000, "less", "stays")
}

// Promise 51, of all batches whose recipe has three phases with some slots, and goes on in any way.
func TestNeedsOfSmallBatches(t *testing.T) {
	lines := []string{"clean p . 0 1", "clean q . 0 2", "move p q 1 3", "move q r 1 1", "fill r p 1 2"}
	things := map[string]string{"p": "z", "q": "y", "r": "x"}
	sum, many := counts{}, 0
	eachOf([]int{0, 1, 2, 3, 4}, 3, func(kinds []int) {
		if len(kinds) < 3 {
			return
		}
		for ways := range 3 * 3 * 2 * 2 {
			b := impl.RunBatch{Name: "b", At: "c", Since: -1, Start: 1}
			to := [][]string{{"b", "c", "good"}, {"c", "saved"}}
			b.Recipe = recipe("a "+lines[kinds[0]]+" "+to[0][ways%3]+" "+to[0][ways/3%3], "b "+lines[kinds[1]]+" "+to[1][ways/9%2]+" "+to[1][ways/18], "c "+lines[kinds[2]]+" good good")
			for _, slot := range impl.RecSlots(b.Recipe, "a") {
				b.Slots = append(b.Slots, impl.RunSlot{Slot: slot, Thing: things[slot]})
			}
			checkBatchByReading(t, "small", b, "a", "b", "c", "good")
			for what, often := range checkPromise51(t, b) {
				sum[what] += often
			}
			many++
		}
	})
	if many != 125*36 {
		t.Errorf("%d were asked", many)
	}
	checkCounted(t, sum, 1000, "less", "stays")
}

// asking51 is what is asked of a batch.
type asking51 struct {
	Batch impl.RunBatch
	From  string
}

func someAskings51() []asking51 {
	var all []asking51
	for _, some := range []map[string]impl.RunBatch{someBatches(), spoiltBatches()} {
		for _, b := range some {
			for _, from := range append(fromsOf(b.Recipe), b.At) {
				all = append(all, asking51{b, from})
			}
		}
	}
	return append(all, asking51{impl.RunBatch{Recipe: []impl.RecPhase{}, Slots: []impl.RunSlot{}}, ""})
}

func TestRunBatchesAreNotWrittenInto(t *testing.T) {
	for _, one := range someAskings51() {
		one := withRoom(one)
		was := withWhatIsBehind(one)
		for range 2 {
			checkBatchByReading(t, "with room", one.Batch, one.From)
		}
		if !reflect.DeepEqual(withWhatIsBehind(one), was) {
			t.Errorf("the batch became %+v", withWhatIsBehind(one))
		}
	}
}

func TestThingsAreNewMemory(t *testing.T) {
	for _, from := range someAskings51() {
		one := withRoom(asking51{from.Batch, strings.Clone(from.From)})
		things, own, again := impl.RunThings(one.Batch, one.From), impl.RunOwn(one.Batch), impl.RunThings(one.Batch, one.From)
		checkOwnMemory(t, "RunThings", things, one)
		checkOwnMemory(t, "RunOwn", own, one, things)
		checkOwnMemory(t, "again", again, one, things, own)
		checkOwnLists(t, "RunThings", things, one)
		checkOwnLists(t, "RunOwn", own, one, things)
		checkOwnLists(t, "again", again, one, things, own)
		spoilTexts(things)
		spoilTexts(own)
		checkBatchByReading(t, "behind answers that were written into", one.Batch, one.From)
	}
}

func TestRunBatchesOfVeryLongLists(t *testing.T) {
	slots := slices.Repeat(slotted("s1=tun"), 200000)
	phases := slices.Repeat(brewing()[:1], 200000)
	text := strings.Repeat("a", 1<<20)
	for what, change := range map[string]func(b *impl.RunBatch){
		"slots": func(b *impl.RunBatch) { b.Slots = slots }, "recipe": func(b *impl.RunBatch) { b.Recipe = phases },
		"both": func(b *impl.RunBatch) { b.Recipe, b.Slots = phases, slots },
		"Name": func(b *impl.RunBatch) { b.Name = text }, "At": func(b *impl.RunBatch) { b.At = text },
		"Slot": func(b *impl.RunBatch) { b.Slots[0].Slot = text }, "Thing": func(b *impl.RunBatch) { b.Slots[1].Thing = text },
	} {
		checkBatch(t, what, otherBatch(brewBatch(), change), false)
	}
	checkThings(t, "from a long text", brewBatch(), text)
}

// What one call was given must not be seen in the next one, nor in one beside it.
func TestRunBatchesKeepNothing(t *testing.T) {
	all := someAskings51()
	var callers sync.WaitGroup
	for caller := range 8 {
		callers.Go(func() {
			for i := range all {
				one := all[(i*7+caller)%len(all)]
				checkBatchByReading(t, "beside others", one.Batch, one.From)
			}
		})
	}
	callers.Wait()
}
