package tests

import (
	"fmt"
	"slices"
	"strconv"
	"strings"
	"testing"

	"loop.example/malthouse/impl"
)

// runCall is one of the three that are called.
type runCall uint8

const (
	runStart runCall = iota
	runSay
	runTick
)

func (c runCall) String() string {
	return []string{"RunStart", "RunSay", "RunTick"}[c]
}

// with is what a code of this call is counted as.
func (c runCall) with(code int) string {
	return c.String() + " " + strconv.Itoa(code)
}

// deed is a call in a house; what a call does not ask for is left out.
type deed struct {
	House  impl.RunHouse
	Call   runCall
	Name   string
	Recipe []impl.RecPhase
	Slots  []impl.RunSlot
	Well   bool
}

func startOf(h impl.RunHouse, b impl.RunBatch) deed {
	return deed{House: h, Call: runStart, Name: b.Name, Recipe: b.Recipe, Slots: b.Slots}
}

func sayOf(h impl.RunHouse, name string, well bool) deed {
	return deed{House: h, Call: runSay, Name: name, Well: well}
}

func tickOf(h impl.RunHouse) deed {
	return deed{House: h, Call: runTick}
}

func (d deed) answer() (impl.RunHouse, int) {
	switch d.Call {
	case runStart:
		return impl.RunStart(d.House, d.Name, d.Recipe, d.Slots)
	case runSay:
		return impl.RunSay(d.House, d.Name, d.Well)
	}
	return impl.RunTick(d.House)
}

func sameBatch(a, b impl.RunBatch) bool {
	return a.Name == b.Name && a.At == b.At && a.Since == b.Since && a.Start == b.Start && slices.Equal(a.Recipe, b.Recipe) && slices.Equal(a.Slots, b.Slots)
}

// sameHouse says whether two houses are the same; an empty list is as good as none.
func sameHouse(a, b impl.RunHouse) bool {
	return a.Now == b.Now && a.Last == b.Last && sameShare(a.Share, b.Share) && slices.EqualFunc(a.Batches, b.Batches, sameBatch) && slices.Equal(a.Dones, b.Dones)
}

func checkDeed(t *testing.T, what string, d deed, want impl.RunHouse, code int) {
	t.Helper()
	if after, is := d.answer(); is != code || !sameHouse(after, want) {
		t.Errorf("%s: %+v = %d, %+v; want %d, %+v", what, d, is, after, code, want)
	}
}

// checkDeedRefused asks for a code, and for the house as it is, or nothing.
func checkDeedRefused(t *testing.T, what string, d deed, code int) {
	t.Helper()
	checkDeed(t, what, d, choose(code == 1, impl.RunHouse{}, copied(d.House)), code)
}

// standing tells in a line how a house stands: Now, of each batch where it is, for how long and what it has, and how others ended.
func standing(h impl.RunHouse) string {
	parts := []string{strconv.Itoa(h.Now)}
	for _, b := range h.Batches {
		part := []string{b.Name, b.At, choose(b.Since == -1, "waits", strconv.Itoa(b.Since))}
		if at := slices.Index(namesOfBatches(h.Share), b.Name); at >= 0 {
			part = append(part, h.Share.Batches[at].Has...)
		}
		parts = append(parts, strings.Join(part, " "))
	}
	for _, d := range h.Dones {
		parts = append(parts, fmt.Sprintf("%s %s at %d", d.Name, []string{"", "good", "saved", "scrapped"}[d.End], d.Tick))
	}
	return strings.Join(parts, "; ")
}

func checkStands(t *testing.T, what string, h impl.RunHouse, want string) {
	t.Helper()
	if got := standing(h); got != want {
		t.Errorf("%s: it stands as %q; want %q", what, got, want)
	}
	checkHouse(t, what, h, true)
}

func opened(t *testing.T, things string) impl.RunHouse {
	t.Helper()
	h, ok := impl.RunOpen(strings.Fields(things))
	if !ok {
		t.Errorf("RunOpen of %q is false", things)
	}
	return h
}

// happened makes a call that has no code.
func happened(t *testing.T, d deed) impl.RunHouse {
	t.Helper()
	after, code := d.answer()
	if code != 0 {
		t.Errorf("%+v = %d", d, code)
	}
	return after
}

// startedIn lets batches begin, one after the other.
func startedIn(t *testing.T, h impl.RunHouse, batches ...impl.RunBatch) impl.RunHouse {
	t.Helper()
	for _, b := range batches {
		h = happened(t, startOf(h, b))
	}
	return h
}

// played lets ticks pass, each written as a dot, and phases go: "a+" went well, "a-" badly.
func played(t *testing.T, h impl.RunHouse, row string) impl.RunHouse {
	t.Helper()
	for _, part := range strings.Fields(row) {
		if strings.HasPrefix(part, ".") {
			for range part {
				h = happened(t, tickOf(h))
			}
			continue
		}
		name := part[:len(part)-1]
		h = happened(t, sayOf(h, name, part == name+"+"))
	}
	return h
}

// usesOne is a batch of one phase that needs one thing.
func usesOne(name, thing string, within int) impl.RunBatch {
	r := recipe("p clean s . 0 9 good saved")
	r[0].Within = within
	return batchOf(name, r, "s="+thing)
}

// usesTwo is a batch that needs a thing, and then, however that went, another one.
func usesTwo(name, first, second string, within int) impl.RunBatch {
	r := recipe("p clean s1 . 0 9 q q", "q test s2 . 0 7 good scrapped")
	r[0].Within = within
	return batchOf(name, r, "s1="+first+" s2="+second)
}

func checkOpens(t *testing.T, things []string, want bool) {
	t.Helper()
	h, ok := impl.RunOpen(things)
	house := impl.RunHouse{}
	if want {
		house.Share.Things = things
	}
	if ok != want || !sameHouse(h, house) {
		t.Errorf("RunOpen of %q = %+v, %v; want %v", things, h, ok, want)
	}
	checkHouse(t, "opened", h, true)
	checkLeft(t, "opened", h, 0)
	checkRunGoes(t, "opened", h)
}

func checkRunGoes(t *testing.T, what string, h impl.RunHouse, want ...string) {
	t.Helper()
	if got := impl.RunGoes(h); !slices.Equal(got, want) {
		t.Errorf("%s: RunGoes = %q; want %q: %+v", what, got, want, h)
	}
}

func TestHousesThatOpen(t *testing.T) {
	for _, things := range []string{"", "keg", "keg tun", "jar keg tun vat", "- 0 9 a a- aa z zzzzzzzz", "good saved scrapped"} {
		checkOpens(t, strings.Fields(things), true)
	}
	checkOpens(t, nil, true)
	checkOpens(t, []string{}, true)
	for many := range 20 {
		checkOpens(t, numbered("t", many), many <= impl.ShareMaxThings)
	}
	eachText(func(text string, isName bool) {
		checkOpens(t, []string{text}, isName)
		checkOpens(t, []string{"-", text}, isName && text > "-")
		checkOpens(t, []string{text, "zzzzzzzz"}, isName && text < "zzzzzzzz")
	})
	eachOf([]string{"", "a", "a-", "b", "B"}, 3, func(things []string) {
		checkOpens(t, things, shareByDefinition(impl.ShareBook{Things: things}))
	})
}

func TestHousesThatDoNotOpen(t *testing.T) {
	for _, things := range [][]string{
		{"tun", "keg"}, {"keg", "keg"}, {"jar", "keg", "keg"}, {"jar", "jar", "keg"}, {"jar", "tun", "keg"}, {""}, {"", "keg"}, {"keg", ""}, {"Keg"}, {"k g"}, {"kegkegkeg"},
		numbered("t", 9), make([]string, 9), make([]string, 200000), slices.Repeat([]string{"keg"}, 200000), {strings.Repeat("k", 1<<20)},
	} {
		checkOpens(t, things, false)
	}
	for _, things := range [][]string{{"jar", "keg", "tun", "vat"}, numbered("t", 8)} {
		for _, wrong := range swapped(things) {
			checkOpens(t, wrong, false)
		}
	}
}

func TestRunStartAlone(t *testing.T) {
	h, code := impl.RunStart(opened(t, "keg tun"), "a", fillAndGo(), slotted("s1=tun s2=keg"))
	want := impl.RunHouse{
		Last:    1,
		Share:   sharing("keg tun", "a keg tun!"),
		Batches: []impl.RunBatch{{Name: "a", Recipe: fillAndGo(), Slots: slotted("s1=tun s2=keg"), At: "fill", Since: 0, Start: 1}},
	}
	if code != 0 || !sameHouse(h, want) {
		t.Errorf("it is %+v, %d", h, code)
	}
	checkLeft(t, "a goes on", h, 7)
	// Whatever it is called, and whatever else is there.
	eachText(func(text string, isName bool) {
		d := startOf(opened(t, "jar keg tun vat"), tunFirst(text))
		if !isName {
			checkDeedRefused(t, "no name", d, 2)
			return
		}
		checkStands(t, "a name", happened(t, d), "0; "+text+" fill 0 tun")
	})
	for what, r := range someRecipes() {
		slots := impl.RecSlots(r, r[0].Name)
		if len(slots) > impl.ShareMaxThings {
			continue
		}
		things := numbered("t", len(slots))
		b := impl.RunBatch{Name: "b", Recipe: r}
		for i, slot := range slots {
			b.Slots = append(b.Slots, impl.RunSlot{Slot: slot, Thing: things[len(things)-1-i]})
		}
		h := happened(t, startOf(opened(t, strings.Join(things, " ")), b))
		checkHouse(t, what, h, true)
		checkRunGoes(t, what, h, "b")
		checkLeft(t, what, h, impl.RecBound(r, r[0].Name))
		if len(h.Batches) != 1 || h.Batches[0].At != r[0].Name || h.Batches[0].Since != 0 {
			t.Errorf("%s: it stands as %q", what, standing(h))
		}
	}
}

func TestWhoBeginsComesLast(t *testing.T) {
	h := opened(t, "jar keg pan tun vat")
	for i, b := range []impl.RunBatch{usesOne("m", "tun", 9), usesOne("z", "keg", 9), usesOne("a", "jar", 9), usesOne("n", "pan", 9), usesOne("-", "vat", 9)} {
		h = happened(t, startOf(h, b))
		last := h.Batches[len(h.Batches)-1]
		if len(h.Batches) != i+1 || last.Name != b.Name || last.Start != i+1 || h.Last != i+1 {
			t.Errorf("%s: %+v", b.Name, h)
		}
	}
	checkStands(t, "all go on", h, "0; m p 0 tun; z p 0 keg; a p 0 jar; n p 0 pan; - p 0 vat")
	checkRunGoes(t, "all go on", h, "m", "z", "a", "n", "-")
	// Last goes on from where it is, whoever is there still.
	h = startedIn(t, played(t, h, "z+ ... m- a+"), usesOne("z", "tun", 9))
	checkStands(t, "z again", h, "3; n p 3 pan; - p 3 vat; z p 0 tun; z good at 0; m saved at 3; a good at 3")
	if h.Last != 6 || h.Batches[2].Start != 6 || h.Batches[0].Start != 4 {
		t.Errorf("it is %+v", h)
	}
	for _, last := range []int{1, 7, 500, impl.RunMaxStarts - 1} {
		h := happened(t, startOf(otherHouse(houseOf("keg tun"), func(h *impl.RunHouse) { h.Last = last }), tunFirst("a")))
		if h.Last != last+1 || h.Batches[0].Start != last+1 {
			t.Errorf("behind %d it is %+v", last, h)
		}
		checkHouse(t, "begun", h, true)
	}
}

func TestWhoBeginsAndWaits(t *testing.T) {
	h := startedIn(t, opened(t, "keg tun"), tunFirst("a"))
	checkStands(t, "its own is had", startedIn(t, h, tunFirst("b")), "0; a fill 0 tun; b fill waits")
	// The keg is free, but with it b would have what a needs, who has what b needs.
	checkStands(t, "its own is free", startedIn(t, h, kegFirst("b")), "0; a fill 0 tun; b fill waits")
	checkStands(t, "its own is free, and nothing else needed", startedIn(t, h, usesOne("b", "keg", 9)), "0; a fill 0 tun; b p 0 keg")
	checkStands(t, "one of two is had", startedIn(t, h, batchOf("b", recipe("m move x y 1 9 good good"), "x=keg y=tun")), "0; a fill 0 tun; b m waits")
	checkStands(t, "several", startedIn(t, h, kegFirst("d"), tunFirst("c"), usesOne("b", "tun", 3), usesOne("-", "keg", 3)), "0; a fill 0 tun; d fill waits; c fill waits; b p waits; - p 0 keg")
	both := startedIn(t, opened(t, "jar keg tun"), batchOf("a", recipe("m move x y 1 9 good good"), "x=tun y=jar"))
	checkStands(t, "both at once", both, "0; a m 0 jar tun")
	checkStands(t, "all that is left", startedIn(t, both, usesOne("b", "keg", 2)), "0; a m 0 jar tun; b p 0 keg")
}

// All ask behind each call, those ahead first: what is given to one may be what another one would have got.
func TestWhoAsksFirst(t *testing.T) {
	waits := houseOf("jar keg tun", tunFirst("b"), kegFirst("a"))
	checkStands(t, "a tick", happened(t, tickOf(waits)), "10; b fill 0 tun; a fill waits")
	checkStands(t, "a start", startedIn(t, waits, usesOne("0", "tun", 3)), "9; b fill 0 tun; a fill waits; 0 p waits")
	checkStands(t, "a start, of what is left", startedIn(t, waits, usesOne("0", "keg", 3)), "9; b fill 0 tun; a fill waits; 0 p 0 keg")
	other := houseOf("jar keg tun", kegFirst("b"), tunFirst("a"), batchAt(usesOne("c", "jar", 5), "p", 2))
	checkStands(t, "a tick, turned", happened(t, tickOf(other)), "10; b fill 0 keg; a fill waits; c p 3 jar")
	checkStands(t, "a say", happened(t, sayOf(other, "c", true)), "9; b fill 0 keg; a fill waits; c good at 9")
	// Who waits may have something already, and then gets what it has not.
	some := otherHouse(houseOf("keg tun", batchAt(tunFirst("a"), "go", -1), tunFirst("b")), func(h *impl.RunHouse) { h.Share.Batches[0].Has = []string{"keg"} })
	checkStands(t, "some of it is had", happened(t, tickOf(some)), "10; a go 0 keg tun; b fill waits")
	not := otherHouse(houseOf("keg tun", tunFirst("a"), kegFirst("b")), func(h *impl.RunHouse) { h.Share.Batches[0].Has = []string{"keg"} })
	checkStands(t, "not what is needed", happened(t, tickOf(not)), "10; a fill 0 keg tun; b fill waits")
}

// notStarting tells what begins nowhere, in a house in which brewBatch could begin.
func notStarting() map[string]impl.RunBatch {
	all := map[string]impl.RunBatch{}
	for what, b := range spoiltBatches() {
		// Where the batch is, and how long, is not asked for.
		if !strings.HasPrefix(what, "at ") && !strings.HasPrefix(what, "Since") && !strings.HasPrefix(what, "Start") {
			all[what] = b
		}
	}
	for i, r := range spoiltRecipes() {
		b := brewBatch()
		b.Recipe = r
		all["recipe "+strconv.Itoa(i)] = b
		b.Slots = nil
		all["recipe without slots "+strconv.Itoa(i)] = b
	}
	for i, thing := range []string{"none", "a", "s1", "kegs", "ke", "tun-", "good"} {
		all["thing "+strconv.Itoa(i)] = otherBatch(brewBatch(), func(b *impl.RunBatch) { b.Slots[i%2].Thing = thing })
	}
	return all
}

func TestStartsOfWhatIsNotOk(t *testing.T) {
	all := notStarting()
	if len(all) < 50 {
		t.Errorf("%d are not ok", len(all))
	}
	for what, b := range all {
		for where, h := range map[string]impl.RunHouse{
			"nobody": houseOf("keg tun"), "with others": houseOf("keg tun", batchAt(tunFirst("c"), "fill", 1), kegFirst("b")), "one of its name": houseOf("keg tun", tunFirst("a")),
			"so many": houseOf("keg tun", tunFirst("b"), tunFirst("c"), tunFirst("d"), tunFirst("e"), tunFirst("f")),
			"no more": otherHouse(houseOf("keg tun"), func(h *impl.RunHouse) { h.Last = impl.RunMaxStarts }),
		} {
			checkDeedRefused(t, what+", "+where, startOf(h, b), 2)
		}
	}
	// A thing that is there for others alone, and one that is there no more.
	checkDeedRefused(t, "no things", startOf(impl.RunHouse{}, brewBatch()), 2)
	checkDeedRefused(t, "one thing", startOf(houseOf("tun"), brewBatch()), 2)
	checkStands(t, "all things", startedIn(t, houseOf("keg tun"), brewBatch()), "9; a fill 0 tun")
}

// Slots are just those of the recipe from its first phase on, in order.
func TestSlotsOfWhoBegins(t *testing.T) {
	h := houseOf("jar keg pan tun vat")
	checkStands(t, "forked", startedIn(t, h, forkedBatch()), "9; fork a 0 vat")
	for what, slots := range map[string]string{
		"none": "", "with those of where nothing leads": "s1=vat s2=tun s3=pan s4=keg s5=jar s7=a s8=b", "one lacking": "s1=vat s2=tun s3=pan s4=keg", "the first lacking": "s2=tun s3=pan s4=keg s5=jar",
		"one twice": "s1=vat s1=vat s2=tun s3=pan s4=keg s5=jar", "out of order": "s2=tun s1=vat s3=pan s4=keg s5=jar", "two of one thing": "s1=vat s2=vat s3=pan s4=keg s5=jar",
		"another name": "s1=vat s2=tun s3=pan s4=keg s6=jar", "one more": "s1=vat s2=tun s3=pan s4=keg s5=jar s6=x",
	} {
		checkDeedRefused(t, what, startOf(h, impl.RunBatch{Name: "a", Recipe: forked(), Slots: slotted(slots)}), 2)
	}
}

func TestStartsOfWhoIsThere(t *testing.T) {
	for what, h := range someHouses() {
		for _, b := range h.Batches {
			checkDeedRefused(t, what, startOf(h, b), 3)
			// By another recipe, and with other things, it is the same name all the same.
			if things := h.Share.Things; len(things) > 1 {
				checkDeedRefused(t, what, startOf(h, usesOne(b.Name, things[0], 9)), 3)
				checkDeedRefused(t, what, startOf(h, usesTwo(b.Name, things[1], things[0], 9)), 3)
			}
		}
	}
	h := startedIn(t, opened(t, "keg tun"), tunFirst("a"), kegFirst("b"))
	checkDeedRefused(t, "it waits", startOf(h, kegFirst("b")), 3)
	// Who has ended may begin again.
	checkStands(t, "again", startedIn(t, played(t, h, "a-"), tunFirst("a")), "0; b fill 0 keg; a fill waits; a scrapped at 0")
}

func TestSoManyBegin(t *testing.T) {
	h := opened(t, "keg tun")
	for i, name := range numbered("b", 8) {
		if i < impl.ShareMaxBatches {
			h = startedIn(t, h, tunFirst(name))
			continue
		}
		checkDeedRefused(t, name, startOf(h, tunFirst(name)), 4)
		checkDeedRefused(t, name, startOf(h, usesOne(name, "keg", 9)), 4)
	}
	checkStands(t, "five", h, "0; b10 fill 0 tun; b11 fill waits; b12 fill waits; b13 fill waits; b14 fill waits")
	checkStands(t, "one less, one more", startedIn(t, played(t, h, "b10-"), usesOne("b15", "keg", 9)), "0; b11 fill 0 tun; b12 fill waits; b13 fill waits; b14 fill waits; b15 p 0 keg; b10 scrapped at 0")
	full := fullHouse()
	checkDeedRefused(t, "as much as may be", startOf(full, usesOne("a", "t10", 9)), 4)
	for _, last := range []int{impl.RunMaxStarts - 2, impl.RunMaxStarts - 1, impl.RunMaxStarts} {
		h := otherHouse(houseOf("keg tun", batchAt(kegFirst("b"), "fill", 1)), func(h *impl.RunHouse) { h.Last = last })
		d := startOf(h, usesOne("a", "tun", 3))
		if last == impl.RunMaxStarts {
			checkDeedRefused(t, "as many have begun as can", d, 4)
		} else {
			checkHouse(t, "they have not", happened(t, d), true)
		}
	}
}

func TestStartsThatMeetSeveralCodes(t *testing.T) {
	reasons := strings.Fields("house recipe slots two name thing there many last")
	eachMetReason(reasons, []int{1, 2, 2, 2, 2, 2, 3, 4, 4}, func(met map[string]bool, code int) {
		names := []string{choose(met["there"], "a", "z"), "b", "c", "d", "e"}
		var batches []impl.RunBatch
		for _, name := range names[:choose(met["many"], 5, 2)] {
			batches = append(batches, tunFirst(name))
		}
		h := houseOf("keg tun", batches...)
		h.Last = choose(met["last"], impl.RunMaxStarts, 77)
		if met["house"] {
			h.Now = -1
		}
		b := tunFirst("a")
		b.Recipe[0].N = choose(met["recipe"], 0, 5)
		b.Slots[1].Slot = choose(met["slots"], "s3", "s2")
		b.Slots[1].Thing = choose(met["two"], "tun", "keg")
		// A name that is none is not there.
		b.Name = choose(met["name"], choose(met["there"], "A", ""), "a")
		b.Slots[0].Thing = choose(met["thing"], "vat", "tun")
		if met["two"] && met["thing"] {
			b.Slots[1].Thing = "vat"
		}
		d := startOf(h, b)
		if code > 0 {
			checkDeedRefused(t, fmt.Sprint(met), d, code)
		} else {
			checkStands(t, "nothing is met", happened(t, d), "9; z fill 0 tun; b fill waits; a fill waits")
		}
	})
}

func TestNothingHappensInHousesThatAreNotOk(t *testing.T) {
	for i, h := range spoiltHouses() {
		what := strconv.Itoa(i)
		checkRunGoes(t, what, h)
		checkDeedRefused(t, what, tickOf(h), 1)
		for _, name := range []string{"a", "b", "c", "d", "none", ""} {
			checkDeedRefused(t, what, sayOf(h, name, true), 1)
			checkDeedRefused(t, what, sayOf(h, name, false), 1)
			checkDeedRefused(t, what, startOf(h, usesOne(name, "keg", 9)), 1)
			checkDeedRefused(t, what, startOf(h, usesOne(name, "none", 9)), 1)
			checkDeedRefused(t, what, startOf(h, impl.RunBatch{Name: name}), 1)
		}
	}
}

func TestSaysOfWhoIsNotThere(t *testing.T) {
	for what, h := range someHouses() {
		names := []string{"", "none", "A", "keg", "tun", "fill", "s1", "good", "a ", "a\x00", strings.Repeat("a", 1000)}
		for _, d := range h.Dones {
			names = append(names, d.Name)
		}
		for _, name := range names {
			if !slices.Contains(namesOfBatches(h.Share), name) {
				checkDeedRefused(t, what, sayOf(h, name, true), 3)
				checkDeedRefused(t, what, sayOf(h, name, false), 3)
			}
		}
	}
	h := played(t, startedIn(t, opened(t, "keg tun"), tunFirst("a"), kegFirst("b")), "a-")
	checkDeedRefused(t, "it has ended", sayOf(h, "a", true), 3)
}

func TestSaysOfWhoWaits(t *testing.T) {
	for what, h := range someHouses() {
		for _, b := range h.Batches {
			if b.Since == -1 {
				checkDeedRefused(t, what, sayOf(h, b.Name, true), 6)
				checkDeedRefused(t, what, sayOf(h, b.Name, false), 6)
			}
		}
	}
	// A hold that waits is not held.
	r := recipe("h hold s . 1 4 good saved")
	h := startedIn(t, opened(t, "keg"), usesOne("a", "keg", 9), batchOf("b", r, "s=keg"))
	checkDeedRefused(t, "it waits", sayOf(h, "b", false), 6)
	h = played(t, h, "...")
	checkDeedRefused(t, "it waits for long", sayOf(h, "b", true), 6)
}

func TestWhatMustBeHeld(t *testing.T) {
	for within := 1; within <= 9; within++ {
		for n := 1; n <= within; n++ {
			r := []impl.RecPhase{{Name: "h", Kind: impl.RecHold, A: "s", N: n, Within: within, Then: "good", Else: "saved"}}
			h := startedIn(t, opened(t, "keg"), batchOf("a", r, "s=keg"))
			for since := range within {
				if since < n {
					checkDeedRefused(t, "held for less", sayOf(h, "a", true), 6)
				} else {
					checkStands(t, "held", happened(t, sayOf(h, "a", true)), fmt.Sprintf("%d; a good at %d", since, since))
				}
				checkStands(t, "badly", happened(t, sayOf(h, "a", false)), fmt.Sprintf("%d; a saved at %d", since, since))
				h = happened(t, tickOf(h))
			}
			checkStands(t, "too long", h, fmt.Sprintf("%d; a saved at %d", within, within))
		}
	}
	// Of others N is an amount, or nothing, and they can go well at once.
	for _, line := range []string{"p fill s1 malt 1000 3 good saved", "p move s1 s2 1000 3 good saved", "p clean s1 . 0 3 good saved", "p test s1 . 0 3 good saved"} {
		b := batchOf("a", recipe(line), "s1=keg s2=tun")
		b.Slots = b.Slots[:len(impl.RecSlots(b.Recipe, "p"))]
		h := startedIn(t, opened(t, "keg tun"), b)
		checkStands(t, line, played(t, h, "a+"), "0; a good at 0")
		checkStands(t, line, played(t, h, "a-"), "0; a saved at 0")
		checkStands(t, line, played(t, h, ".. a+"), "2; a good at 2")
	}
	// It is held from when it goes on, not from when it is come to.
	late := startedIn(t, opened(t, "keg"), usesOne("a", "keg", 9), batchOf("b", recipe("h hold s . 2 4 good saved"), "s=keg"))
	late = played(t, late, "..... a+ .")
	checkDeedRefused(t, "held for a tick", sayOf(late, "b", true), 6)
	checkStands(t, "held for two", played(t, late, ". b+"), "7; a good at 5; b good at 7")
}

// The document's example.
func TestTheExampleOfGoingOn(t *testing.T) {
	h := startedIn(t, opened(t, "keg tun"), tunFirst("a"), kegFirst("b"))
	for _, one := range []struct {
		row, stands string
		left        int
	}{
		{"", "0; a fill 0 tun; b fill waits", 14}, {".", "1; a fill 1 tun; b fill waits", 13}, {"a+", "1; a go 0 keg tun; b fill waits", 11}, {"....", "5; b fill 0 keg; a saved at 5", 7},
		{"..", "7; b fill 2 keg; a saved at 5", 5}, {"b+", "7; b go 0 keg tun; a saved at 5", 4}, {"... b+", "10; a saved at 5; b good at 10", 0}, {"....", "14; a saved at 5; b good at 10", 0},
	} {
		h = played(t, h, one.row)
		checkStands(t, one.row, h, one.stands)
		checkLeft(t, one.row, h, one.left)
	}
}

func TestPhasesThatGo(t *testing.T) {
	h := startedIn(t, opened(t, "keg tun"), brewBatch())
	for _, one := range []struct{ row, stands string }{
		{"a-", "0; a scrapped at 0"}, {"a+", "0; a rest 0 tun"}, {"... a+", "3; a rest 0 tun"}, {". a+ . a-", "2; a saved at 2"}, {"a+ ... a+", "3; a look 0 tun"}, {"a+ ... a+ a+", "3; a go 0 keg tun"},
		{"a+ ... a+ a-", "3; a saved at 3"}, {"a+ ... a+ a+ . a+", "4; a wash 0 tun"}, {"a+ ... a+ a+ . a-", "4; a saved at 4"}, {"a+ ... a+ a+ a+ a+", "3; a good at 3"}, {"a+ ... a+ a+ a+ .. a-", "5; a saved at 5"},
	} {
		checkStands(t, one.row, played(t, h, one.row), one.stands)
	}
	fork := startedIn(t, opened(t, "jar keg pan tun vat"), forkedBatch())
	for _, one := range []struct{ row, stands, needs string }{
		{"", "0; fork a 0 vat", "jar keg pan tun vat"}, {"fork+", "0; fork b 0 tun", "jar keg tun"}, {"fork-", "0; fork c 0 pan", "jar keg pan"}, {"fork- fork-", "0; fork e 0 keg", "keg"},
		{"fork- fork+", "0; fork d 0 jar keg", "jar keg"}, {"fork+ .. fork+", "2; fork d 0 jar keg", "jar keg"}, {"fork+ fork-", "0; fork d 0 jar keg", "jar keg"}, {"fork+ fork- fork+", "0; fork e 0 keg", "keg"},
	} {
		h := played(t, fork, one.row)
		checkStands(t, one.row, h, one.stands)
		if needs := h.Share.Batches[0].Needs; !slices.Equal(needs, strings.Fields(one.needs)) {
			t.Errorf("%s: it needs %q", one.row, needs)
		}
	}
}

// What one gives back is asked for by the others at once, and what it needs still it keeps.
func TestWhatIsGivenBack(t *testing.T) {
	h := played(t, startedIn(t, opened(t, "keg tun vat"), brewBatch()), "a+ ... a+ a+")
	h = startedIn(t, h, usesOne("b", "keg", 9), usesOne("c", "tun", 9), usesOne("d", "keg", 9))
	checkStands(t, "all wait for a", h, "3; a go 0 keg tun; b p waits; c p waits; d p waits")
	checkStands(t, "the keg is given back", played(t, h, "a+"), "3; a wash 0 tun; b p 0 keg; c p waits; d p waits")
	checkStands(t, "both are given back", played(t, h, "a-"), "3; b p 0 keg; c p 0 tun; d p waits; a saved at 3")
	checkStands(t, "one after the other", played(t, h, "a+ . b+ a+"), "4; c p 0 tun; d p 0 keg; b good at 4; a good at 4")
	// What it has and needs later it keeps while it waits, and while it goes on without it.
	two := startedIn(t, opened(t, "keg tun vat"), usesOne("b", "keg", 9), brewBatch(), usesOne("c", "tun", 9))
	two = played(t, two, "a+ ... a+ a+")
	checkStands(t, "it waits, and has", two, "3; b p 3 keg; a go waits tun; c p waits")
	checkDeedRefused(t, "it waits", sayOf(two, "a", true), 6)
	checkStands(t, "it has both", played(t, two, "b-"), "3; a go 0 keg tun; c p waits; b saved at 3")
	back := batchOf("a", recipe("p clean x . 0 9 q q", "q clean y . 0 9 r r", "r clean x . 0 9 good good"), "x=keg y=tun")
	three := played(t, startedIn(t, opened(t, "keg tun"), back, usesOne("b", "keg", 9)), "a+")
	checkStands(t, "it will need the keg again", three, "0; a q 0 keg tun; b p waits")
	checkStands(t, "and gives back the tun", played(t, three, "a+"), "0; a r 0 keg; b p waits")
}

// Who goes on waits first, and asks in its turn: those ahead of it may get what it would need.
func TestWhoGoesOnAsksInItsTurn(t *testing.T) {
	h := startedIn(t, opened(t, "keg tun"), usesOne("c", "keg", 9), usesOne("a", "keg", 9), usesTwo("b", "tun", "keg", 9))
	checkStands(t, "b waits behind a", played(t, h, "b+"), "0; c p 0 keg; a p waits; b q waits")
	checkStands(t, "a is ahead", played(t, h, "b+ c+"), "0; a p 0 keg; b q waits; c good at 0")
	checkStands(t, "and then b", played(t, h, "b+ c+ a+"), "0; b q 0 keg; c good at 0; a good at 0")
	h = startedIn(t, opened(t, "keg tun"), usesOne("c", "keg", 9), usesTwo("b", "tun", "keg", 9), usesOne("a", "keg", 9))
	checkStands(t, "b is ahead", played(t, h, "b+ c+"), "0; b q 0 keg; a p waits; c good at 0")
	// One's end lets another one go on that has asked in vain for what was free.
	h = startedIn(t, opened(t, "keg tun"), tunFirst("a"), kegFirst("b"))
	checkStands(t, "b may have the keg now", played(t, h, "a-"), "0; b fill 0 keg; a scrapped at 0")
}

func TestTicks(t *testing.T) {
	for what, h := range someHouses() {
		if h.Now == impl.RunMaxTick {
			checkDeedRefused(t, what, tickOf(h), 7)
			continue
		}
		after := happened(t, tickOf(h))
		if after.Now != h.Now+1 || after.Last != h.Last {
			t.Errorf("%s: %+v becomes %+v", what, h, after)
		}
		checkHouse(t, what, after, true)
	}
	checkStands(t, "nobody", played(t, opened(t, "keg"), "....."), "5")
	checkStands(t, "nobody, and no things", played(t, impl.RunHouse{}, "."), "1")
	h := startedIn(t, opened(t, "jar keg tun"), usesOne("a", "keg", 5), usesOne("b", "keg", 5), usesOne("c", "jar", 5))
	checkStands(t, "a tick", played(t, h, "."), "1; a p 1 keg; b p waits; c p 1 jar")
	checkStands(t, "another one", played(t, h, ".."), "2; a p 2 keg; b p waits; c p 2 jar")
	for now := impl.RunMaxTick - 2; now <= impl.RunMaxTick; now++ {
		h.Now = now
		if now == impl.RunMaxTick {
			checkDeedRefused(t, "no more ticks", tickOf(h), 7)
			checkStands(t, "all else may be", played(t, h, "a+"), "100000; b p 0 keg; c p 0 jar; a good at 100000")
		} else {
			checkStands(t, "ticks left", played(t, h, "."), strconv.Itoa(now+1)+"; a p 1 keg; b p waits; c p 1 jar")
		}
	}
	h = startedIn(t, otherHouse(houseOf("keg"), func(h *impl.RunHouse) { h.Now = impl.RunMaxTick - 1 }), usesOne("a", "keg", 1))
	checkStands(t, "late at the last tick", played(t, h, "."), "100000; a saved at 100000")
}

// Who waits has no ticks, however long it waits.
func TestWhoWaitsIsNotLate(t *testing.T) {
	h := startedIn(t, opened(t, "keg tun"), usesOne("a", "keg", 100), usesOne("b", "keg", 1), usesTwo("c", "keg", "tun", 1))
	for range 99 {
		h = played(t, h, ".")
	}
	checkStands(t, "long", h, "99; a p 99 keg; b p waits; c p waits")
	checkStands(t, "a is late", played(t, h, "."), "100; b p 0 keg; c p waits; a saved at 100")
	checkStands(t, "b is late", played(t, h, ".."), "101; c p 0 keg; a saved at 100; b saved at 101")
	checkStands(t, "c is late", played(t, h, "..."), "102; c q 0 tun; a saved at 100; b saved at 101")
	checkStands(t, "c is late again", played(t, h, "... ......."), "109; a saved at 100; b saved at 101; c scrapped at 109")
}

func TestWhoIsLate(t *testing.T) {
	h := startedIn(t, opened(t, "keg tun"), tunFirst("a"))
	checkStands(t, "not yet", played(t, h, ".."), "2; a fill 2 tun")
	checkStands(t, "late", played(t, h, "..."), "3; a scrapped at 3")
	checkStands(t, "from the second phase", played(t, h, ". a+ ...."), "5; a saved at 5")
	// To a phase: it goes on there in the same tick, if it gets what it asks for, and has all its ticks there.
	to := batchOf("a", recipe("p clean x . 0 3 good q", "q clean y . 0 2 saved r", "r clean x . 0 1 good scrapped"), "x=keg y=tun")
	h = startedIn(t, opened(t, "keg tun"), to)
	for i, stands := range []string{"1; a p 1 keg", "2; a p 2 keg", "3; a q 0 keg tun", "4; a q 1 keg tun", "5; a r 0 keg", "6; a scrapped at 6", "7; a scrapped at 6"} {
		checkStands(t, "to phases", played(t, h, strings.Repeat(".", i+1)), stands)
	}
	// And waits, if it does not.
	h = startedIn(t, opened(t, "keg tun"), usesOne("b", "tun", 5), to)
	for i, stands := range []string{"1; b p 1 tun; a p 1 keg", "2; b p 2 tun; a p 2 keg", "3; b p 3 tun; a q waits keg", "4; b p 4 tun; a q waits keg", "5; a q 0 keg tun; b saved at 5", "6; a q 1 keg tun; b saved at 5"} {
		checkStands(t, "to phases, and waits", played(t, h, strings.Repeat(".", i+1)), stands)
	}
	// Each has its own ticks.
	h = startedIn(t, opened(t, "jar keg tun"), usesOne("a", "jar", 3), usesOne("b", "keg", 2), usesOne("c", "tun", 4))
	for i, stands := range []string{"1; a p 1 jar; b p 1 keg; c p 1 tun", "2; a p 2 jar; c p 2 tun; b saved at 2", "3; c p 3 tun; b saved at 2; a saved at 3", "4; b saved at 2; a saved at 3; c saved at 4"} {
		checkStands(t, "of three", played(t, h, strings.Repeat(".", i+1)), stands)
	}
	once := startedIn(t, opened(t, "keg"), usesOne("a", "keg", 1))
	checkStands(t, "a tick is all", played(t, once, "."), "1; a saved at 1")
	long := startedIn(t, opened(t, "keg"), usesOne("a", "keg", 1000))
	checkStands(t, "as long as can be", played(t, long, strings.Repeat(".", 999)), "999; a p 999 keg")
	checkStands(t, "and a tick", played(t, long, strings.Repeat(".", 1000)), "1000; a saved at 1000")
}

// Several are late in one tick: from the last to the first they go on, and only then all ask.
func TestSeveralThatAreLate(t *testing.T) {
	h := startedIn(t, opened(t, "jar keg tun"), usesOne("b", "jar", 2), usesOne("c", "keg", 2), usesOne("a", "tun", 2))
	checkStands(t, "all end", played(t, h, ".."), "2; a saved at 2; c saved at 2; b saved at 2")
	h = startedIn(t, opened(t, "jar keg tun"), usesOne("b", "jar", 2), usesOne("c", "keg", 3), usesOne("a", "tun", 2))
	checkStands(t, "two end", played(t, h, ".. ."), "3; a saved at 2; b saved at 2; c saved at 3")
	// b comes to what it needs only behind c, and asks for it ahead of x.
	h = startedIn(t, opened(t, "keg tun"), usesTwo("b", "tun", "keg", 2), usesOne("c", "keg", 2), usesOne("x", "keg", 9))
	checkStands(t, "the keg goes to b", played(t, h, ".."), "2; b q 0 keg; x p waits; c saved at 2")
	h = startedIn(t, opened(t, "keg tun"), usesOne("c", "keg", 2), usesOne("x", "keg", 9), usesTwo("b", "tun", "keg", 2))
	checkStands(t, "the keg goes to x", played(t, h, ".."), "2; x p 0 keg; b q waits; c saved at 2")
	// Each comes to what the other one had.
	h = startedIn(t, opened(t, "jar keg tun"), usesTwo("a", "keg", "jar", 2), usesTwo("b", "tun", "keg", 2), usesOne("c", "jar", 2), usesOne("d", "tun", 9))
	checkStands(t, "in turn", played(t, h, ".."), "2; a q 0 jar; b q 0 keg; d p 0 tun; c saved at 2")
	// To ends and to phases in one tick.
	five := startedIn(t, opened(t, "a b c d e"), usesOne("5", "a", 3), usesTwo("4", "b", "a", 3), usesOne("3", "c", 3), usesTwo("2", "d", "c", 3), usesOne("1", "e", 3))
	checkStands(t, "five", played(t, five, "..."), "3; 4 q 0 a; 2 q 0 c; 1 saved at 3; 3 saved at 3; 5 saved at 3")
}

func TestDonesOfWhatEnds(t *testing.T) {
	dones := func(many int) []impl.RunDone {
		var all []impl.RunDone
		for i, name := range numbered("d", many) {
			all = append(all, impl.RunDone{Name: name, End: 1 + i%3, Tick: i / 3})
		}
		return all
	}
	for many := 0; many <= impl.RunMaxDones; many++ {
		h := otherHouse(houseOf("keg", batchAt(usesOne("a", "keg", 3), "p", 2)), func(h *impl.RunHouse) { h.Dones = dones(many) })
		for _, d := range []deed{sayOf(h, "a", true), sayOf(h, "a", false), tickOf(h)} {
			end := impl.RunDone{Name: "a", End: choose(d.Well, 1, 2), Tick: choose(d.Call == runTick, 10, 9)}
			want := append(dones(many), end)
			after := happened(t, d)
			if !slices.Equal(after.Dones, want[max(0, len(want)-20):]) || len(after.Batches) != 0 {
				t.Errorf("behind %d: %+v", many, after)
			}
			checkHouse(t, "ended", after, true)
		}
		// What only goes on is not told of.
		h = otherHouse(houseOf("keg tun", batchAt(usesTwo("a", "keg", "tun", 3), "p", 2)), func(h *impl.RunHouse) { h.Dones = dones(many) })
		for _, d := range []deed{sayOf(h, "a", true), tickOf(h), startOf(h, usesOne("b", "tun", 3))} {
			if after := happened(t, d); !slices.Equal(after.Dones, dones(many)) {
				t.Errorf("behind %d: %+v", many, after)
			}
		}
		// Several in one tick.
		h = otherHouse(houseOf("jar keg tun", batchAt(usesOne("c", "jar", 3), "p", 2), batchAt(usesOne("b", "keg", 3), "p", 2), batchAt(usesOne("a", "tun", 3), "p", 2)), func(h *impl.RunHouse) { h.Dones = dones(many) })
		want := append(dones(many), impl.RunDone{Name: "a", End: 2, Tick: 10}, impl.RunDone{Name: "b", End: 2, Tick: 10}, impl.RunDone{Name: "c", End: 2, Tick: 10})
		if after := happened(t, tickOf(h)); !slices.Equal(after.Dones, want[max(0, len(want)-20):]) {
			t.Errorf("behind %d: %+v", many, after.Dones)
		}
	}
	// One name may end again and again, each time by another end.
	h := opened(t, "keg")
	for range 30 {
		for i, end := range []string{"good", "saved", "scrapped"} {
			h = startedIn(t, h, batchOf("a", recipe("p clean s . 0 9 "+end+" "+end), "s=keg"))
			h = played(t, h, ". a+")
			if d := h.Dones[len(h.Dones)-1]; d != (impl.RunDone{Name: "a", End: i + 1, Tick: h.Now}) || len(h.Dones) != min(h.Now, 20) {
				t.Errorf("it ends as %+v: %+v", d, h)
			}
		}
	}
	if h.Dones[0].Tick != 71 || h.Last != 90 {
		t.Errorf("it is %+v", h)
	}
}

func TestWhoGoesOn(t *testing.T) {
	for what, want := range map[string]string{
		"nothing": "", "empty lists": "", "things alone": "", "dones alone": "", "one that waits": "", "one that goes on": "a", "one with both": "a", "the first going": "a", "the second going": "a",
		"the last going": "b", "named the other way": "z", "more things": "keg", "apart from others": "a b", "with what others do": "", "small": "b", "full": "batch-2",
		"where nothing leads": "b", "waits, and has": "", "waits, and has all": "", "goes on, and has more": "a",
	} {
		checkRunGoes(t, what, someHouses()[what], strings.Fields(want)...)
	}
	for bits := range 1 << 5 {
		var batches []impl.RunBatch
		var want []string
		for i, name := range []string{"m", "z", "a", "n", "-"} {
			b := usesOne(name, "t"+strconv.Itoa(10+i), 9)
			if bits>>i&1 == 1 {
				b.Since = i
				want = append(want, name)
			}
			batches = append(batches, b)
		}
		checkRunGoes(t, strconv.Itoa(bits), houseOf(strings.Join(numbered("t", 5), " "), batches...), want...)
	}
	for i, h := range spoiltHouses() {
		checkRunGoes(t, strconv.Itoa(i), h)
	}
}
