package tests

import (
	"fmt"
	"maps"
	"math/rand"
	"reflect"
	"runtime"
	"slices"
	"strconv"
	"strings"
	"sync"
	"testing"

	"loop.example/malthouse/impl"
)

// boardOf is lines with a newline behind each; of none it is the empty text.
func boardOf(lines ...string) string {
	var text strings.Builder
	for _, line := range lines {
		text.WriteString(line + "\n")
	}
	return text.String()
}

func checkBoard(t *testing.T, what string, h impl.RunHouse, lines ...string) {
	t.Helper()
	if got, want := impl.RunBoard(h), boardOf(lines...); got != want {
		t.Errorf("%s: RunBoard = %q; want %q: %+v", what, got, want, h)
	}
}

// havingIn is a house in which one has just these things, whatever it had.
func havingIn(h impl.RunHouse, name, things string) impl.RunHouse {
	return otherHouse(h, func(h *impl.RunHouse) {
		h.Share.Batches[slices.Index(namesOfBatches(h.Share), name)].Has = strings.Fields(things)
	})
}

// The document's four boards, of one house that goes on, each whole.
func TestTheExampleOfBoards(t *testing.T) {
	h := startedIn(t, opened(t, "keg tun"), tunFirst("a"), kegFirst("b"))
	for _, one := range []struct{ row, board string }{
		{"", "now 0 left 14\na fill for 0 tun\nb fill waits\n"},
		{".", "now 1 left 13\na fill for 1 tun\nb fill waits\n"},
		{"a+", "now 1 left 11\na go for 0 keg tun\nb fill waits\n"},
		{"....", "now 5 left 7\nb fill for 0 keg\na saved at 5\n"},
		// And on, until nobody is there any more.
		{"..", "now 7 left 5\nb fill for 2 keg\na saved at 5\n"},
		{"b+", "now 7 left 4\nb go for 0 keg tun\na saved at 5\n"},
		{"... b+", "now 10 left 0\na saved at 5\nb good at 10\n"},
		{"..", "now 12 left 0\na saved at 5\nb good at 10\n"},
	} {
		h = played(t, h, one.row)
		if got := impl.RunBoard(h); got != one.board {
			t.Errorf("behind %q RunBoard = %q; want %q", one.row, got, one.board)
		}
	}
}

// The same houses, as they stand, whatever led to them.
func TestTheHousesOfTheExampleOfBoards(t *testing.T) {
	now := func(h impl.RunHouse, now int) impl.RunHouse {
		return otherHouse(h, func(h *impl.RunHouse) { h.Now = now })
	}
	first := houseOf("keg tun", batchAt(tunFirst("a"), "fill", 0), kegFirst("b"))
	checkBoard(t, "the first", now(first, 0), "now 0 left 14", "a fill for 0 tun", "b fill waits")
	second := houseOf("keg tun", batchAt(tunFirst("a"), "fill", 1), kegFirst("b"))
	checkBoard(t, "the second", now(second, 1), "now 1 left 13", "a fill for 1 tun", "b fill waits")
	third := houseOf("keg tun", batchAt(tunFirst("a"), "go", 0), kegFirst("b"))
	checkBoard(t, "the third", now(third, 1), "now 1 left 11", "a go for 0 keg tun", "b fill waits")
	fourth := now(houseOf("keg tun", batchAt(kegFirst("b"), "fill", 0)), 5)
	fourth.Dones = []impl.RunDone{{Name: "a", End: 2, Tick: 5}}
	checkBoard(t, "the fourth", fourth, "now 5 left 7", "b fill for 0 keg", "a saved at 5")
}

func TestBoardsOfNobody(t *testing.T) {
	checkBoard(t, "nothing", impl.RunHouse{}, "now 0 left 0")
	checkBoard(t, "empty lists", someHouses()["empty lists"], "now 0 left 0")
	checkBoard(t, "opened", opened(t, "keg tun"), "now 0 left 0")
	checkBoard(t, "opened without things", opened(t, ""), "now 0 left 0")
	checkBoard(t, "things alone", houseOf("keg tun"), "now 9 left 0")
	for _, now := range []int{0, 1, 9, 10, 99, 100, 1000, 9999, 10000, 99999, impl.RunMaxTick} {
		checkBoard(t, "a tick", impl.RunHouse{Now: now}, "now "+strconv.Itoa(now)+" left 0")
		checkBoard(t, "a last start", impl.RunHouse{Now: now, Last: impl.RunMaxStarts}, "now "+strconv.Itoa(now)+" left 0")
	}
}

func TestBoardsOfWhatEnded(t *testing.T) {
	checkBoard(t, "dones alone", someHouses()["dones alone"], "now 2 left 0", "a saved at 0", "a saved at 2")
	three := impl.RunHouse{Now: 100000, Dones: []impl.RunDone{{Name: "z", End: 1, Tick: 0}, {Name: "a", End: 3, Tick: 70}, {Name: "-", End: 2, Tick: 100000}}}
	checkBoard(t, "each end", three, "now 100000 left 0", "z good at 0", "a scrapped at 70", "- saved at 100000")
	// Those of one tick stay in their order, and one name may come again and again.
	h := impl.RunHouse{Now: 7}
	want := []string{"now 7 left 0"}
	for many := range impl.RunMaxDones + 3 {
		if many > impl.RunMaxDones {
			checkBoard(t, "too many", h)
		} else {
			checkBoard(t, strconv.Itoa(many), h, want...)
		}
		name, end := []string{"b", "a", "b", "c"}[many%4], many%3
		h.Dones = append(h.Dones, impl.RunDone{Name: name, End: end + 1, Tick: 7})
		want = append(want, name+" "+[]string{"good", "saved", "scrapped"}[end]+" at 7")
	}
	// Behind its end one may begin again under its name.
	again := startedIn(t, played(t, startedIn(t, opened(t, "keg"), usesOne("a", "keg", 4)), "... a-"), usesOne("a", "keg", 4))
	checkBoard(t, "again", again, "now 3 left 4", "a p for 0 keg", "a saved at 3")
}

// As many as may be there, and as many as may be told of: each number is as great as it can be.
func TestTheGreatestBoard(t *testing.T) {
	want := []string{
		"now 100000 left 59001", "batch-0 p10 waits", "batch-1 p10 waits", "batch-2 p10 for 999 t10 t11 t12 t13 t14 t15 t16 t17", "batch-3 p10 waits", "batch-4 p10 waits",
		"done-10 good at 99981", "done-11 saved at 99982", "done-12 scrapped at 99983", "done-13 good at 99984", "done-14 saved at 99985", "done-15 scrapped at 99986",
		"done-16 good at 99987", "done-17 saved at 99988", "done-18 scrapped at 99989", "done-19 good at 99990", "done-20 saved at 99991", "done-21 scrapped at 99992",
		"done-22 good at 99993", "done-23 saved at 99994", "done-24 scrapped at 99995", "done-25 good at 99996", "done-26 saved at 99997", "done-27 scrapped at 99998",
		"done-28 good at 99999", "done-29 saved at 100000",
	}
	full := fullHouse()
	checkBoard(t, "full", full, want...)
	checkBoard(t, "one more that ended", otherHouse(full, func(h *impl.RunHouse) { h.Dones = append(h.Dones, h.Dones[19]) }))
	checkBoard(t, "a tick more", otherHouse(full, func(h *impl.RunHouse) { h.Now++ }))
	// If all wait, all is left.
	all := havingIn(otherHouse(full, func(h *impl.RunHouse) { h.Batches[2].Since = -1 }), "batch-2", "")
	want[0], want[3] = "now 100000 left 60000", "batch-2 p10 waits"
	checkBoard(t, "all wait", all, want...)
}

// What one has is told in Share's order, whatever it is of that it uses now, and for who waits as for who goes on.
func TestWhatBoardsTellOfThings(t *testing.T) {
	waits := houseOf("jar keg tun vat", batchOf("a", recipe("p clean s1 . 0 3 q q", "q move s3 s2 1 3 r r", "r clean s4 . 0 2 good good"), "s1=tun s2=vat s3=keg s4=jar"))
	goes := otherHouse(waits, func(h *impl.RunHouse) { h.Batches[0].Since = 2 })
	for bits := range 16 {
		has := pick([]string{"jar", "keg", "tun", "vat"}, bits)
		told := strings.Join(append([]string{""}, has...), " ")
		checkBoard(t, "it waits", havingIn(waits, "a", strings.Join(has, " ")), "now 9 left 8", "a p waits"+told)
		// Who goes on has what it needs for that, or the house is not ok: so nobody goes on with no thing.
		h := havingIn(goes, "a", strings.Join(has, " "))
		if slices.Contains(has, "tun") {
			checkBoard(t, "it goes on", h, "now 9 left 6", "a p for 2"+told)
		} else {
			checkBoard(t, "it goes on without what it needs", h)
		}
	}
	for what, want := range map[string][]string{
		"one that waits":        {"now 9 left 7", "a fill waits"},
		"one that goes on":      {"now 9 left 7", "a fill for 0 tun"},
		"one with both":         {"now 9 left 1", "a go for 3 keg tun"},
		"waits, and has":        {"now 9 left 14", "a fill waits keg", "b fill waits"},
		"waits, and has all":    {"now 9 left 14", "a fill waits", "b fill waits keg tun"},
		"goes on, and has more": {"now 9 left 5", "a fill for 2 keg tun"},
	} {
		checkBoard(t, what, someHouses()[what], want...)
	}
}

// Batches come in the order in which they began, whatever they are called; those that share are ordered by their names.
func TestTheOrderOfBoards(t *testing.T) {
	for what, want := range map[string][]string{
		"named the other way": {"now 9 left 18", "z go for 0 keg tun", "m fill waits", "a fill waits"},
		"more things":         {"now 9 left 12", "tun fill waits", "keg fill for 2 keg"},
		"apart from others":   {"now 9 left 5", "a go for 1 keg tun", "b go for 2 pan vat"},
		"small":               {"now 9 left 168", "b rest for 5 tun", "a fill waits", "c fill waits", "d good at 3", "a scrapped at 3", "d saved at 9"},
		"where nothing leads": {"now 9 left 1", "b q for 4 keg"},
	} {
		checkBoard(t, what, someHouses()[what], want...)
	}
	names := []string{"m", "z", "a", "n", "-"}
	for bits := range 1 << 5 {
		var batches []impl.RunBatch
		want := []string{""}
		for i, name := range names {
			b, thing := usesOne(name, "t"+strconv.Itoa(14-i), 9), ""
			if bits>>i&1 == 1 {
				b.Since, thing = i, " t"+strconv.Itoa(14-i)
			}
			batches = append(batches, b)
			want = append(want, name+" p "+choose(thing == "", "waits", "for "+strconv.Itoa(i))+thing)
		}
		h := houseOf("t10 t11 t12 t13 t14", batches...)
		want[0] = "now 9 left " + strconv.Itoa(leftByDefinition(h))
		checkBoard(t, strconv.Itoa(bits), h, want...)
	}
}

// How long one has been at its phase is told from 0 on, as far as it may go.
func TestSinceOfBoards(t *testing.T) {
	long := houseOf("keg", usesOne("a", "keg", 1000))
	checkBoard(t, "it waits", long, "now 9 left 1000", "a p waits")
	for since := range 1000 {
		h := houseOf("keg", batchAt(usesOne("a", "keg", 1000), "p", since))
		checkBoard(t, "it goes on", h, fmt.Sprint("now 9 left ", 1000-since), fmt.Sprint("a p for ", since, " keg"))
	}
	for _, since := range []int{-2, 1000, 1001} {
		checkBoard(t, "it is not ok", otherHouse(houseOf("keg", batchAt(usesOne("a", "keg", 1000), "p", 0)), func(h *impl.RunHouse) { h.Batches[0].Since = since }))
	}
}

// Whatever may be called so: as the board's own words, as ends, with all that a name may have.
func TestNamesOnBoards(t *testing.T) {
	r := recipe("for clean waits . 0 3 at now", "at test left . 0 2 now good", "now move left waits 4 1 scrapped saved")
	b := batchOf("now", r, "left=for waits=good")
	h := houseOf("for good", b)
	checkBoard(t, "words of the board", h, "now 9 left 6", "now for waits")
	h = houseOf("for good", batchAt(b, "now", 0))
	h.Dones = []impl.RunDone{{Name: "left", End: 3, Tick: 0}, {Name: "good", End: 2, Tick: 1}, {Name: "saved", End: 1, Tick: 2}}
	checkBoard(t, "going on", h, "now 9 left 1", "now now for 0 for good", "left scrapped at 0", "good saved at 1", "saved good at 2")
	checkBoard(t, "called like ends", someHouses()["with what others do"], "now 9 left 2", "good a waits")
	eachText(func(text string, isName bool) {
		h := houseOf("keg", batchAt(usesOne(text, "keg", 3), "p", 1))
		done := impl.RunHouse{Now: 2, Dones: []impl.RunDone{{Name: text, End: 1, Tick: 1}}}
		if isName {
			checkBoard(t, "a name", h, "now 9 left 2", text+" p for 1 keg")
			checkBoard(t, "a name that ended", done, "now 2 left 0", text+" good at 1")
		} else {
			checkBoard(t, "no name", h)
			checkBoard(t, "no name that ended", done)
		}
	})
}

func TestBoardsOfWhatIsNotOk(t *testing.T) {
	for i, h := range spoiltHouses() {
		checkBoard(t, strconv.Itoa(i), h)
	}
	for what, b := range spoiltBatches() {
		checkBoard(t, what, otherHouse(houseOf("keg tun", brewBatch()), func(h *impl.RunHouse) { h.Batches[0] = b }))
	}
	for _, now := range []int{-1, impl.RunMaxTick + 1} {
		checkBoard(t, "no tick", impl.RunHouse{Now: now})
	}
	for _, last := range []int{-1, impl.RunMaxStarts + 1} {
		checkBoard(t, "no start", impl.RunHouse{Last: last})
	}
	// A ring, in which nobody can have all it needs.
	checkBoard(t, "a ring", houseOf("keg tun", batchAt(tunFirst("a"), "fill", 0), batchAt(kegFirst("b"), "fill", 0)))
	checkBoard(t, "it shares, and is not there", impl.RunHouse{Share: sharing("keg", "a keg!")})
	checkBoard(t, "it is there, and does not share", otherHouse(houseOf("keg", usesOne("a", "keg", 3)), func(h *impl.RunHouse) { h.Share.Batches = nil }))
}

// boardByDefinition reads the chapter a second time.
func boardByDefinition(h impl.RunHouse) []string {
	if !houseByDefinition(h) {
		return nil
	}
	lines := []string{fmt.Sprintf("now %d left %d", h.Now, leftByDefinition(h))}
	for _, b := range h.Batches {
		line := fmt.Sprintf("%s %s for %d", b.Name, b.At, b.Since)
		if b.Since == -1 {
			line = fmt.Sprintf("%s %s waits", b.Name, b.At)
		}
		for _, thing := range h.Share.Things {
			if whoByDefinition(h.Share, thing) == b.Name {
				line += " " + thing
			}
		}
		lines = append(lines, line)
	}
	for _, d := range h.Dones {
		lines = append(lines, fmt.Sprintf("%s %s at %d", d.Name, map[int]string{1: "good", 2: "saved", 3: "scrapped"}[d.End], d.Tick))
	}
	return lines
}

// checkPromise52 holds a board against the second reading, and asks for a line for the tick, for each batch, and for each that ended.
func checkPromise52(t *testing.T, what string, h impl.RunHouse) {
	t.Helper()
	checkBoard(t, what, h, boardByDefinition(h)...)
	board := impl.RunBoard(h)
	if !impl.RunHouseOk(h) {
		if board != "" {
			t.Errorf("%s: RunBoard = %q: %+v", what, board, h)
		}
		return
	}
	begins := []string{"now " + strconv.Itoa(h.Now) + " left " + strconv.Itoa(impl.RunLeft(h))}
	for _, b := range h.Batches {
		begins = append(begins, b.Name+" "+b.At+" ")
	}
	for _, d := range h.Dones {
		begins = append(begins, d.Name+" ")
	}
	lines := slices.Collect(strings.Lines(board))
	isOf := func(line, begin string) bool { return strings.HasPrefix(line, begin) && strings.HasSuffix(line, "\n") }
	if !slices.EqualFunc(lines, begins, isOf) {
		t.Errorf("%s: the lines %q; want such as %q: %+v", what, lines, begins, h)
	}
}

func TestBoardsByReading(t *testing.T) {
	for what, h := range someHouses() {
		checkPromise52(t, what, h)
	}
	for what, from := range someHouses() {
		if what == "full" {
			continue
		}
		counted := counts{}
		eachWithOneChange(from, textsOfAll(from), func(h impl.RunHouse) {
			checkPromise52(t, "one thing of "+what, h)
			isNothing := impl.RunBoard(h) == ""
			counted.note("a board", !isNothing)
			counted.note("nothing", isNothing)
		})
		checkCounted(t, counted, 1, "a board", "nothing")
	}
}

// Houses as they need not come about: some that wait have something, and some that go on have more than they need.
func TestBoardsOfDrawnHouses(t *testing.T) {
	counted := besideEachOther(8, func(i int) counts {
		dice, counted := rand.New(rand.NewSource(int64(640+i))), counts{}
		for range 400 {
			h := drawnHouse(dice)
			if dice.Intn(4) == 0 && len(h.Batches) > 0 {
				changeHouse(dice, &h)
			}
			checkPromise52(t, "drawn", h)
			lines := boardByDefinition(h)
			counted.note("nothing", len(lines) == 0)
			counted.note("a board", len(lines) > 0)
			for _, line := range lines {
				counted.note("waits, with none", strings.HasSuffix(line, " waits"))
				counted.note("waits, with some", strings.Contains(line, " waits "))
				counted.note("goes on with one", strings.Contains(line, " for ") && len(strings.Fields(line)) == 5)
				counted.note("goes on with several", strings.Contains(line, " for ") && len(strings.Fields(line)) > 5)
			}
		}
		return counted
	})
	checkCounted(t, counted, 100, "nothing", "a board", "waits, with none", "waits, with some", "goes on with one", "goes on with several")
}

// Promise 52, behind each call of drawn rows.
func TestBoardsOfRowsOfDeeds(t *testing.T) {
	met := besideEachOther(8, func(i int) counts {
		dice, met := rand.New(rand.NewSource(int64(520+i))), counts{}
		for range 4 {
			h, _ := impl.RunOpen(numbered("t", 6+dice.Intn(3)))
			checkPromise52(t, "opened", h)
			// So long that more end than are told of.
			for range 480 {
				d := rowDeed(dice, h)
				after, code := d.answer()
				checkPromise52(t, "in a row", after)
				met.note(d.Call.with(code), true)
				noteHouse(met, after)
				met.note("as many as can be", len(after.Batches) == impl.ShareMaxBatches)
				met.note("as many ended as are told of", len(after.Dones) == impl.RunMaxDones)
				h = after
			}
		}
		return met
	})
	checkCounted(t, met, 100, runStart.with(0), runStart.with(3), runStart.with(4), runSay.with(0), runSay.with(6), runTick.with(0))
	checkCounted(t, met, 100, "several go on", "waits for what is free", "waits, and has", "as many as can be", "as many ended as are told of")
	checkCounted(t, met, 20, "nobody")
}

// housesOfBoards is houses that are ok, and that are not, in an order of their own.
func housesOfBoards() []impl.RunHouse {
	some := someHouses()
	all := spoiltHouses()
	for _, what := range slices.Sorted(maps.Keys(some)) {
		all = append(all, some[what])
	}
	return all
}

func TestBoardsLeaveTheirArguments(t *testing.T) {
	for i, from := range housesOfBoards() {
		h := withRoom(from)
		was := withWhatIsBehind(h)
		first := impl.RunBoard(h)
		if again, without := impl.RunBoard(h), impl.RunBoard(from); again != first || without != first {
			t.Errorf("%d: it was %q, and is %q, and without room %q", i, first, again, without)
		}
		if !reflect.DeepEqual(withWhatIsBehind(h), was) {
			t.Errorf("%d: the house became %+v", i, withWhatIsBehind(h))
		}
		checkOwnMemory(t, strconv.Itoa(i), first, h)
		// What becomes of the house then is not seen in its board.
		want := strings.Clone(first)
		spoilHouse(h)
		if first != want {
			t.Errorf("%d: it became %q; it was %q", i, first, want)
		}
	}
}

func TestBoardsOfVeryLongLists(t *testing.T) {
	long := 200000
	name := strings.Repeat("b", 1<<20)
	for what, change := range map[string]func(h *impl.RunHouse){
		"batches":         func(h *impl.RunHouse) { h.Batches = slices.Repeat(h.Batches[:1], long) },
		"nobody for long": func(h *impl.RunHouse) { h.Batches = make([]impl.RunBatch, long) },
		"who shares":      func(h *impl.RunHouse) { h.Share.Batches = slices.Repeat(h.Share.Batches[:1], long) },
		"things":          func(h *impl.RunHouse) { h.Share.Things = slices.Repeat(h.Share.Things, long) },
		"has":             func(h *impl.RunHouse) { h.Share.Batches[1].Has = slices.Repeat(h.Share.Batches[1].Has, long) },
		"dones":           func(h *impl.RunHouse) { h.Dones = slices.Repeat(h.Dones[:1], long) },
		"a recipe":        func(h *impl.RunHouse) { h.Batches[1].Recipe = slices.Repeat(h.Batches[1].Recipe, long) },
		"slots":           func(h *impl.RunHouse) { h.Batches[1].Slots = slices.Repeat(h.Batches[1].Slots, long) },
		"a name":          func(h *impl.RunHouse) { h.Batches[0].Name = name },
		"where it is":     func(h *impl.RunHouse) { h.Batches[0].At = name },
		"a done's name":   func(h *impl.RunHouse) { h.Dones[0].Name = name },
		"who shares' own": func(h *impl.RunHouse) { h.Share.Batches[0].Name = name },
	} {
		checkBoard(t, what, otherHouse(smallHouse(), change))
	}
}

// checkSomeBoards is some calls whose answers are known, one behind the other.
func checkSomeBoards(t *testing.T, full impl.RunHouse, lines []string) {
	t.Helper()
	checkBoard(t, "full", full, lines...)
	checkBoard(t, "nobody", impl.RunHouse{}, "now 0 left 0")
	checkBoard(t, "small", smallHouse(), "now 9 left 168", "b rest for 5 tun", "a fill waits", "c fill waits", "d good at 3", "a scrapped at 3", "d saved at 9")
	checkBoard(t, "not ok", impl.RunHouse{Now: -1})
	checkBoard(t, "one", someHouses()["one with both"], "now 9 left 1", "a go for 3 keg tun")
}

// What one call was given must not be seen in the next one, nor in one beside it.
func TestBoardsKeepNothing(t *testing.T) {
	all := housesOfBoards()
	var want [][]string
	for _, h := range all {
		want = append(want, boardByDefinition(h))
	}
	var callers sync.WaitGroup
	for caller := range 8 {
		callers.Go(func() {
			for i := range 20 * len(all) {
				at := (i*7 + caller) % len(all)
				checkBoard(t, "beside others", all[at], want[at]...)
			}
		})
	}
	callers.Wait()
}

// Callers may ask for the board of one house at once.
func TestBoardsOfOneHouseByManyCallers(t *testing.T) {
	full := fullHouse()
	lines := boardByDefinition(full)
	var callers sync.WaitGroup
	for range 8 {
		callers.Go(func() {
			for range 100 {
				checkBoard(t, "by many", full, lines...)
			}
		})
	}
	callers.Wait()
}

func TestGoroutinesOfBoardsHaveEnded(t *testing.T) {
	full := fullHouse()
	lines := boardByDefinition(full)
	before := runtime.NumGoroutine()
	for range 300 {
		checkSomeBoards(t, full, lines)
	}
	for _, h := range housesOfBoards() {
		impl.RunBoard(h)
	}
	checkNoMoreGoroutines(t, before)
}

func TestBoardsHoweverGoroutinesRun(t *testing.T) {
	full := fullHouse()
	lines := boardByDefinition(full)
	howeverGoroutinesRun(func() { checkSomeBoards(t, full, lines) })
}
