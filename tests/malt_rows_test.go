package tests

import (
	"fmt"
	"maps"
	"math"
	"math/rand"
	"reflect"
	"runtime"
	"slices"
	"strconv"
	"strings"
	"sync"
	"testing"

	"loop.example/malthouse/impl"
)

func hasJob(m impl.CtlMaster, number int) bool {
	return slices.ContainsFunc(m.Jobs, func(j impl.CtlJob) bool { return j.Number == number })
}

// isAtByReading says whether a job's batch is still at its At, and does not wait.
func isAtByReading(w impl.MaltWorld, j impl.MaltJob) bool {
	for _, b := range w.House.Batches {
		if b.Name == j.Batch {
			return b.At == j.At && b.Since != -1
		}
	}
	return false
}

// saysByReading lets a phase go, and tells whether it did.
func saysByReading(w *impl.MaltWorld, batch string, well bool) bool {
	after, code := deedByDefinition(sayOf(w.House, batch, well))
	w.House = after
	return code == 0
}

// The four steps of MaltAct as a second reading of the chapter does them; what is met is counted.

func heldByReading(w *impl.MaltWorld, met counts) {
	for _, b := range slices.Clone(w.House.Batches) {
		if p := phaseOfBatch(b); p.Kind == 3 && b.Since >= p.N {
			met.note("held", saysByReading(w, b.Name, true))
		}
	}
}

func heardByReading(w *impl.MaltWorld, met counts) {
	all := w.Jobs
	w.Jobs = nil
	for _, j := range all {
		if hasJob(w.Ctl.Mind, j.Number) {
			w.Jobs = append(w.Jobs, j)
			continue
		}
		if !isAtByReading(*w, j) {
			met.note("gone, and not heard", true)
			continue
		}
		meter := meterInOk(*w, j.Number, j.Place)
		isSaid := saysByReading(w, j.Batch, meter == j.Amount)
		met.note("heard well", isSaid && meter == j.Amount)
		met.note("heard less", isSaid && meter < j.Amount)
		met.note("heard more", isSaid && meter > j.Amount)
	}
}

func askedByReading(w *impl.MaltWorld, met counts) {
	for _, b := range w.House.Batches {
		e, ok := wantInOk(*w, b)
		if !ok {
			continue
		}
		if slices.ContainsFunc(w.Jobs, func(j impl.MaltJob) bool { return j.Batch == b.Name }) {
			met.note("has asked already", true)
			continue
		}
		if len(w.Jobs) >= 8 {
			met.note("no room to ask", true)
			continue
		}
		last := w.Ctl.Mind.Last
		stepsByDefinition(&w.Ctl, e)
		if w.Ctl.Mind.Last == last {
			met.note("refused", true)
			continue
		}
		j := impl.MaltJob{Batch: b.Name, At: b.At, Number: w.Ctl.Mind.Last, Amount: 1}
		if e.Kind == 7 {
			j.Place, j.Amount = e.Route.Places[0], e.Amount
		} else {
			j.Place = e.Places[0]
		}
		met.note("asked for a move", e.Kind == 7)
		met.note("asked for a cleaning", e.Kind == 8)
		w.Jobs = append(slices.Clone(w.Jobs), j)
		slices.SortFunc(w.Jobs, func(a, b impl.MaltJob) int { return strings.Compare(a.Batch, b.Batch) })
	}
}

func haltedByReading(w *impl.MaltWorld, met counts) {
	for _, j := range w.Jobs {
		isMet := meterInOk(*w, j.Number, j.Place) == j.Amount
		if isAtByReading(*w, j) && !isMet {
			continue
		}
		was := copied(w.Ctl.Mind)
		stepsByDefinition(&w.Ctl, haltOf(j.Number))
		isHalted := !sameMaster(w.Ctl.Mind, was)
		met.note("halted, as much as asked for", isHalted && isMet)
		met.note("halted, and not met", isHalted && !isMet)
		met.note("halted already", !isHalted)
	}
}

// actInOk is of a world that is ok, in memory of its own.
func actInOk(w *impl.MaltWorld, met counts) {
	heldByReading(w, met)
	if !w.Ctl.Up {
		met.note("the master is down", true)
		return
	}
	heardByReading(w, met)
	askedByReading(w, met)
	haltedByReading(w, met)
}

func actByReading(w impl.MaltWorld, met counts) impl.MaltWorld {
	if !maltByDefinition(w) {
		return impl.MaltWorld{}
	}
	after := copied(w)
	actInOk(&after, met)
	return after
}

// stepByReading reads the chapter behind that one a second time.
func stepByReading(w impl.MaltWorld, e impl.MaltEvent, met counts) impl.MaltWorld {
	if !maltByDefinition(w) {
		return impl.MaltWorld{}
	}
	after := copied(w)
	switch e.Kind {
	case 1:
		stepsByDefinition(&after.Ctl, e.Ctl)
		if w.Ctl.Up && !after.Ctl.Up {
			after.Jobs = slices.DeleteFunc(after.Jobs, func(j impl.MaltJob) bool { return !hasJob(after.Ctl.Disk, j.Number) })
			met.note("lost by a fall", len(after.Jobs) < len(w.Jobs))
			met.note("kept by a fall", len(after.Jobs) > 0)
		}
	case 2:
		b, code := deedByDefinition(deed{House: after.House, Call: runStart, Name: e.Name, Recipe: e.Recipe, Slots: e.Slots})
		after.House = b
		met.note("begun", code == 0)
		met.note("not begun", code != 0)
	case 3:
		after.House, _ = deedByDefinition(tickOf(after.House))
		met.note("late", len(after.House.Dones) > len(w.House.Dones))
		actInOk(&after, met)
	case 4:
		for _, b := range w.House.Batches {
			if b.Name == e.Name && phaseOfBatch(b).Kind == 5 {
				isSaid := saysByReading(&after, e.Name, e.Well)
				met.note("looked at, well", isSaid && e.Well)
				met.note("looked at, badly", isSaid && !e.Well)
			}
		}
	}
	return after
}

// checkActByReading holds MaltAct against the second reading, and asks for promise 58.
func checkActByReading(t *testing.T, what string, w impl.MaltWorld, met counts) impl.MaltWorld {
	t.Helper()
	want := actByReading(w, met)
	after := impl.MaltAct(w)
	if !sameMalt(after, want) {
		t.Errorf("%s: MaltAct = %+v; want %+v: %+v", what, after, want, w)
	}
	if maltByDefinition(w) {
		checkMalt(t, what+", behind it", after, true)
	}
	checkPromise58(t, what, w, after)
	return after
}

func checkMaltStep(t *testing.T, what string, w impl.MaltWorld, e impl.MaltEvent, want impl.MaltWorld) {
	t.Helper()
	if after := impl.MaltStep(w, e); !sameMalt(after, want) {
		t.Errorf("%s: MaltStep of %+v = %+v; want %+v: %+v", what, e, after, want, w)
	}
}

func checkMaltStepByReading(t *testing.T, what string, w impl.MaltWorld, e impl.MaltEvent, met counts) impl.MaltWorld {
	t.Helper()
	want := stepByReading(w, e, met)
	checkMaltStep(t, what, w, e, want)
	return want
}

// allOfActing is all that can be met in MaltAct by worlds as they come about.
func allOfActing() []string {
	return []string{"held", "heard well", "heard less", "gone, and not heard", "asked for a move", "asked for a cleaning", "has asked already", "refused", "halted, as much as asked for", "halted, and not met", "halted already", "the master is down"}
}

func TestActingByReading(t *testing.T) {
	met := counts{}
	all := spoiltMalts()
	for what, w := range someMalts() {
		all[what] = w
	}
	for what, w := range all {
		checkActByReading(t, what, w, met)
	}
	checkCounted(t, met, 1, "held", "asked for a move", "asked for a cleaning", "has asked already", "refused", "the master is down", "gone, and not heard")
}

func TestActingOfWhichOneThingIsChanged(t *testing.T) {
	counted := besideEachOther(4, func(i int) counts {
		met := counts{}
		from := []impl.MaltWorld{
			moving(houseOf("keg tun", brewer("b", "fill", 7)), 12, "b fill 1 malt 12"),
			moving(houseOf("keg tun", brewer("b", "fill", 7)), 5, "b fill 1 malt 12"),
			movedMalt(houseOf("jar tun", batchAt(batchOf("b", recipe("p fill s malt 3 9 q r", "q hold s . 2 9 good r", "r clean s . 0 9 good saved"), "s=tun"), "p", 3)), 3, "b p 1 malt 3"),
			brewed(houseOf("keg tun", batchAt(batchOf("b", recipe("q hold s . 2 9 r good", "r fill s malt 4 9 good saved"), "s=tun"), "q", 2), batchAt(usesOne("a", "keg", 9), "p", 1)), jobsOf("z p 1 keg 1")...),
		}[i]
		eachWithOneChange(from, []string{"", "b", "keg", "malt", "q", "tun"}, func(w impl.MaltWorld) {
			isOk := maltByDefinition(w)
			met.note("ok", isOk)
			met.note("not ok", !isOk)
			checkActByReading(t, "one thing of "+strconv.Itoa(i), w, met)
		})
		return met
	})
	checkCounted(t, counted, 1000, "ok", "not ok")
	checkCounted(t, counted, 5, "held", "heard well", "heard less", "heard more", "gone, and not heard", "asked for a move", "asked for a cleaning", "has asked already", "refused", "halted, as much as asked for", "halted, and not met")
}

func TestActingOfWhichTwoThingsAreChanged(t *testing.T) {
	met := counts{}
	from := movedMalt(houseOf("keg tun", batchAt(batchOf("b", recipe("p fill s malt 3 9 q good", "q hold s . 2 9 good saved"), "s=tun"), "p", 3)), 3, "b p 1 malt 3")
	// What is changed is the house, and the jobs.
	eachWithOneChange(from.House.Batches, []string{"a", "b", "malt", "q"}, func(batches []impl.RunBatch) {
		eachWithOneChange(from.Jobs, []string{"a", "keg", "malt", "q"}, func(jobs []impl.MaltJob) {
			w := impl.MaltWorld{Ctl: from.Ctl, House: from.House, Jobs: jobs}
			w.House.Batches = batches
			checkActByReading(t, "two things", w, met)
		})
	})
	checkCounted(t, met, 30, "heard well", "heard less", "heard more", "gone, and not heard")
}

func TestActingInDrawnWorlds(t *testing.T) {
	counted := besideEachOther(8, func(i int) counts {
		dice, met := rand.New(rand.NewSource(int64(580+i))), counts{}
		for range 200 {
			w := drawnMalt(dice)
			after := checkActByReading(t, "drawn", w, met)
			checkActByReading(t, "drawn, a second time", after, met)
			for _, b := range after.House.Batches {
				checkWantByReading(t, "drawn", after, b.Name)
			}
		}
		return met
	})
	checkCounted(t, counted, 10, allOfActing()...)
	checkCounted(t, counted, 10, "heard more")
}

// calmBySteps is a calm round as the document's last chapter has it, event by event.
func calmBySteps(w impl.MaltWorld) impl.MaltWorld {
	link := func(e impl.CtlEvent) { w = impl.MaltStep(w, impl.MaltEvent{Kind: impl.MaltCtls, Ctl: e}) }
	w = impl.MaltStep(w, impl.MaltEvent{Kind: impl.MaltTicks})
	for _, j := range w.Jobs {
		at := slices.IndexFunc(w.Ctl.Mind.Jobs, func(other impl.CtlJob) bool { return other.Number == j.Number })
		if at < 0 {
			continue
		}
		if r := w.Ctl.Mind.Jobs[at].Route; len(r.Places) > 0 {
			for range 5 {
				link(flows(j.Number, r.Places[len(r.Places)-1]))
			}
		}
		for station := range w.Ctl.Stations {
			link(happens(impl.CtlCleans, station+1, j.Number))
		}
	}
	for _, b := range w.House.Batches {
		w = impl.MaltStep(w, impl.MaltEvent{Kind: impl.MaltTests, Name: b.Name, Well: true})
	}
	for computer := range len(w.Ctl.Stations) + 1 {
		link(happens(impl.CtlWrites, computer, 0))
	}
	for range w.Ctl.Radio {
		link(happens(impl.CtlBrings, 0, 0))
	}
	link(happens(impl.CtlSays, 0, 0))
	return w
}

// inVesselsOf is what each vessel of a world holds, a line each.
func inVesselsOf(w impl.MaltWorld) string {
	text := ""
	for _, v := range w.Ctl.Stuff.Vessels {
		text += v.Name + ":"
		for _, p := range v.Parts {
			text += " " + p.Lot + " " + strconv.Itoa(p.Amount)
		}
		text += "\n"
	}
	return text
}

// documentsPlant and documentsRecipe are those of the example of the document's last chapter.
func documentsPlant() impl.Plant {
	return written("stuff malt", "joint j west", "vessel keg 30 east", "vessel malt 60 west", "vessel tun 20 west", "valve a j malt west", "valve b j tun west", "valve c j keg east")
}

func documentsRecipe() []impl.RecPhase {
	return recipe("fill fill s1 malt 12 30 rest scrapped", "rest hold s1 . 3 9 look saved", "look test s1 . 0 9 go saved", "go move s1 s2 12 30 wash saved", "wash clean s1 . 0 30 good saved")
}

func documentsWorld(t *testing.T) impl.MaltWorld {
	t.Helper()
	w, ok := impl.MaltOpen(documentsPlant(), []impl.CtlFill{fill("m1", "malt", "malt", 40)}, []string{"keg", "tun"})
	if !ok {
		t.Error("the document's world does not open")
	}
	return impl.MaltStep(w, impl.MaltEvent{Kind: impl.MaltStarts, Name: "b", Recipe: documentsRecipe(), Slots: slotted("s1=tun s2=keg")})
}

func TestDocumentsExampleRoundByRound(t *testing.T) {
	w := documentsWorld(t)
	boards := map[int]string{
		6:  "now 6 left 102\nb fill for 6 tun\nkeg:\nmalt: m1 30\ntun: m1 10\n",
		14: "now 14 left 77\nb rest for 1 tun\nkeg:\nmalt: m1 28\ntun: m1 12\n",
		30: "now 30 left 29\nb wash for 1 tun\nkeg: m1 12\nmalt: m1 28\ntun:\n",
		50: "now 50 left 0\nb good at 39\nkeg: m1 12\nmalt: m1 28\ntun:\n",
	}
	for round := 1; round <= 50; round++ {
		w = calmBySteps(w)
		if want, isOne := boards[round]; isOne {
			if got := impl.RunBoard(w.House) + inVesselsOf(w); got != want {
				t.Errorf("behind %d rounds it is %q; want %q", round, got, want)
			}
		}
		checkActByReading(t, "the example", w, counts{})
	}
	if len(w.Jobs) > 0 || !impl.CtlQuiet(w.Ctl) || !slices.Equal(impl.StuffRecall(w.Ctl.Stuff, "m1"), []string{"keg", "malt"}) {
		t.Errorf("it is not at rest: %+v", w)
	}
}

// rowFounded is a world in which nothing has happened, with all vessels as things.
func rowFounded(dice *rand.Rand) impl.MaltWorld {
	p, fills := brewery(), breweryFills()
	switch dice.Intn(6) {
	case 0:
		p, fills = yard(), []impl.CtlFill{fill("l1", "ale", "a", 5), fill("y1", "lye", "c", 2), fill("m1", "malt", "d", 3)}
	case 1:
		p, fills = pond(), []impl.CtlFill{fill("l1", "ale", "a", 4), fill("y1", "lye", "c", 2)}
	case 2:
		p, fills = documentsPlant(), []impl.CtlFill{fill("m1", "malt", "malt", 60)}
	}
	w, ok := impl.MaltOpen(p, fills, vesselsOf(p))
	if !ok {
		panic("a world of a row does not open")
	}
	return w
}

// drawnStart draws who begins; what it fills from is a vessel in which something is, more often than not.
func drawnStart(dice *rand.Rand, w impl.MaltWorld) impl.MaltEvent {
	things := w.House.Share.Things
	b := drawnBrew(dice, oneOf(dice, []string{"a", "b", "c", "d", "e", "f", "g"}, ""), things)
	full := filled(w.Ctl)
	for i := range b.Recipe {
		p := &b.Recipe[i]
		p.Within += dice.Intn(16)
		if p.Kind == impl.RecFill && len(full) > 0 && dice.Intn(4) > 0 {
			p.B = full[dice.Intn(len(full))]
		}
	}
	if dice.Intn(16) == 0 {
		b.Slots = b.Slots[1:]
	}
	return impl.MaltEvent{Kind: impl.MaltStarts, Name: b.Name, Recipe: b.Recipe, Slots: b.Slots}
}

// rowMaltEvents draws what happens next in a row.
func rowMaltEvents(dice *rand.Rand, w impl.MaltWorld, all []impl.PlantRoute) []impl.MaltEvent {
	tick := impl.MaltEvent{Kind: impl.MaltTicks}
	looks := slices.DeleteFunc(slices.Clone(w.House.Batches), func(b impl.RunBatch) bool { return phaseOfBatch(b).Kind != impl.RecTest })
	switch chance := dice.Intn(40); {
	case chance < 2 || len(w.House.Batches) == 0 && chance < 12:
		return []impl.MaltEvent{drawnStart(dice, w)}
	case chance < 8:
		return []impl.MaltEvent{tick}
	case chance < 10 || len(looks) > 0 && chance < 20:
		b := oneOf(dice, looks, oneOf(dice, w.House.Batches, impl.RunBatch{Name: "x"}))
		return []impl.MaltEvent{{Kind: impl.MaltTests, Name: b.Name, Well: dice.Intn(2) > 0}}
	case chance == 20:
		return []impl.MaltEvent{{Kind: dice.Intn(8) - 1, Name: "a"}}
	case chance == 21:
		// What is asked for in a tick is not on the disk yet.
		return []impl.MaltEvent{tick, {Kind: impl.MaltCtls, Ctl: happens(impl.CtlFalls, 0, 0)}, tick}
	case chance < 32 && len(down(w.Ctl)) > 0:
		// Who is down for long lets nothing come about.
		return []impl.MaltEvent{{Kind: impl.MaltCtls, Ctl: happens(impl.CtlRises, down(w.Ctl)[0], 0)}}
	}
	e := rowEvent(dice, w.Ctl, all)
	// What the master begins by itself would leave no room for what batches ask for.
	if (e.Kind == impl.CtlMoves || e.Kind == impl.CtlPlaces) && dice.Intn(4) > 0 {
		e = happens(impl.CtlSays, 0, 0)
	}
	return []impl.MaltEvent{{Kind: impl.MaltCtls, Ctl: e}}
}

// checkRowOf holds what happens in a row against the second reading.
func checkRowOf(t *testing.T, what string, dice *rand.Rand, w impl.MaltWorld, all []impl.PlantRoute, met counts) impl.MaltWorld {
	t.Helper()
	for _, e := range rowMaltEvents(dice, w, all) {
		if dice.Intn(3) == 0 || e.Kind != impl.MaltCtls || e.Ctl.Kind == impl.CtlFalls {
			w = checkMaltStepByReading(t, what, w, e, met)
		} else {
			w = impl.MaltStep(w, e)
		}
	}
	checkMalt(t, what, w, true)
	checkActByReading(t, what, w, met)
	for _, b := range w.House.Batches {
		checkWantByReading(t, what, w, b.Name)
	}
	return w
}

// Promises 58 and 57, in worlds as they come about.
func TestRowsOfMaltSteps(t *testing.T) {
	counted := besideEachOther(32, func(row int) counts {
		dice, met := rand.New(rand.NewSource(int64(7200+row))), counts{}
		w := rowFounded(dice)
		all := allRoutes(w.Ctl.Plant)
		for i := range 220 {
			what := fmt.Sprintf("row %d, event %d", row, i)
			for range dice.Intn(4) * dice.Intn(2) {
				w = calmBySteps(w)
			}
			w = checkRowOf(t, what, dice, w, all, met)
			if t.Failed() {
				return met
			}
		}
		return met
	})
	checkCounted(t, counted, 5, allOfActing()...)
	checkCounted(t, counted, 5, "begun", "not begun", "late", "looked at, well", "looked at, badly", "lost by a fall", "kept by a fall")
}

// smallBeginnings is worlds of a tiny plant in which little can happen, from which all short rows of events are followed.
func smallBeginnings() []impl.MaltWorld {
	p := tiny()
	both := batchOf("n", recipe("p move x y 1 3 h saved", "h hold x . 1 3 q q", "q clean x . 0 3 good saved"), "x=a y=b")
	one := batchOf("m", recipe("p test y . 0 2 q scrapped", "q fill y a 2 3 good good"), "y=b")
	w, _ := impl.MaltOpen(p, []impl.CtlFill{fill("l", "ale", "a", 3)}, []string{"a", "b"})
	start := func(w impl.MaltWorld, b impl.RunBatch) impl.MaltWorld {
		return impl.MaltStep(w, impl.MaltEvent{Kind: impl.MaltStarts, Name: b.Name, Recipe: b.Recipe, Slots: b.Slots})
	}
	all := []impl.MaltWorld{w, start(w, both), start(start(w, one), both), start(start(w, both), one)}
	for _, w := range all[1:] {
		for range 4 {
			w = calmBySteps(w)
			all = append(all, w)
		}
	}
	return all
}

func smallEvents() []impl.MaltEvent {
	one := batchOf("m", recipe("q fill y a 2 3 good good"), "y=b")
	all := []impl.MaltEvent{{Kind: impl.MaltTicks}, {Kind: impl.MaltTests, Name: "m", Well: true}, {Kind: impl.MaltTests, Name: "n"}, {Kind: impl.MaltStarts, Name: "m", Recipe: one.Recipe, Slots: one.Slots}}
	for _, e := range []impl.CtlEvent{happens(impl.CtlSays, 0, 0), happens(impl.CtlWrites, 0, 0), happens(impl.CtlBrings, 0, 0), haltOf(1), flows(1, "b"), happens(impl.CtlFalls, 0, 0), happens(impl.CtlRises, 0, 0)} {
		all = append(all, impl.MaltEvent{Kind: impl.MaltCtls, Ctl: e})
	}
	return all
}

func TestAllShortRowsOfMaltSteps(t *testing.T) {
	beginnings := smallBeginnings()
	counted := besideEachOther(len(beginnings), func(i int) counts {
		met, seen := counts{}, map[string]bool{}
		now := beginnings[i : i+1]
		for range 4 {
			var next []impl.MaltWorld
			for _, from := range now {
				for _, e := range smallEvents() {
					after := impl.MaltStep(from, e)
					if key := fmt.Sprintf("%+v", after); !seen[key] {
						seen[key] = true
						checkMaltStepByReading(t, "short", from, e, met)
						checkMalt(t, "short", after, true)
						checkActByReading(t, "short", after, met)
						next = append(next, after)
					}
				}
			}
			now = next
		}
		met["worlds"] = len(seen)
		return met
	})
	checkCounted(t, counted, 1500, "worlds")
	checkCounted(t, counted, 10, "begun", "late", "looked at, well", "asked for a move", "refused", "has asked already", "halted, and not met", "halted already", "the master is down", "lost by a fall", "kept by a fall")
}

// malting is what MaltStep is asked.
type malting struct {
	World impl.MaltWorld
	Event impl.MaltEvent
}

// someMaltings is right ones and wrong ones, each by what it is.
func someMaltings() map[string]malting {
	some := someMalts()
	all := map[string]malting{}
	start := brewer("n", "fill", -1)
	for what, w := range some {
		all["a tick: "+what] = malting{w, impl.MaltEvent{Kind: impl.MaltTicks}}
		all["a test: "+what] = malting{w, impl.MaltEvent{Kind: impl.MaltTests, Name: "b", Well: true}}
		all["a fall: "+what] = malting{w, impl.MaltEvent{Kind: impl.MaltCtls, Ctl: happens(impl.CtlFalls, 0, 0)}}
		all["a start: "+what] = malting{w, impl.MaltEvent{Kind: impl.MaltStarts, Name: start.Name, Recipe: start.Recipe, Slots: start.Slots}}
	}
	for what, e := range map[string]impl.CtlEvent{"a move": toMove("lye f tun", 2), "a cleaning": toClean("jar"), "a writing": happens(impl.CtlWrites, 0, 0), "a flow": flows(1, "tun"), "a bringing": happens(impl.CtlBrings, 0, 0)} {
		all[what] = malting{moving(houseOf("keg tun", brewer("b", "fill", 7)), 5, "b fill 1 malt 12"), impl.MaltEvent{Kind: impl.MaltCtls, Ctl: e}}
	}
	all["heard"] = malting{movedMalt(houseOf("keg tun", brewer("b", "fill", 7)), 12, "b fill 1 malt 12"), impl.MaltEvent{Kind: impl.MaltTicks}}
	all["another kind"] = malting{busyMalt(), impl.MaltEvent{Kind: 5, Name: "b", Recipe: documentsRecipe()}}
	all["a world that is not ok"] = malting{spoiltMalts()["backwards"], impl.MaltEvent{Kind: impl.MaltTicks}}
	return all
}

func TestMaltStepsByReading(t *testing.T) {
	met := counts{}
	for what, m := range someMaltings() {
		checkMaltStepByReading(t, what, m.World, m.Event, met)
	}
	checkCounted(t, met, 1, "begun", "not begun", "looked at, well", "kept by a fall", "lost by a fall", "asked for a move", "heard well")
}

func TestActingLeavesItsArguments(t *testing.T) {
	for what, from := range someMaltings() {
		m := withRoom(from)
		was := withWhatIsBehind(m)
		if after, without := impl.MaltAct(m.World), impl.MaltAct(from.World); !sameMalt(after, without) {
			t.Errorf("%s: with room MaltAct = %+v; without %+v", what, after, without)
		}
		checkMaltStep(t, what, m.World, m.Event, impl.MaltStep(from.World, from.Event))
		checkMaltStep(t, what+", a second time", m.World, m.Event, impl.MaltStep(from.World, from.Event))
		if !reflect.DeepEqual(withWhatIsBehind(m), was) {
			t.Errorf("%s: the arguments became %+v", what, withWhatIsBehind(m))
		}
	}
}

// spoilMalt writes into some lists of each part of a world.
func spoilMalt(w impl.MaltWorld) {
	spoilTexts(w.Ctl.Plant.Stuffs)
	for _, l := range slices.Concat(w.Ctl.Wet, w.Ctl.Mind.Left, w.Ctl.Disk.Left) {
		spoilTexts(l.Stuffs)
	}
	for _, j := range w.Ctl.Mind.Jobs {
		spoilTexts(j.Route.Places)
		spoilTexts(j.Places)
	}
	for _, s := range w.Ctl.Stations {
		spoilTexts(s.Mind.Valves)
		spoilTexts(s.Disk.Valves)
	}
	spoilHouse(w.House)
	for i := range w.Jobs[:cap(w.Jobs)] {
		w.Jobs[:cap(w.Jobs)][i] = impl.MaltJob{Batch: "spoilt"}
	}
}

func TestWorldsBehindActingAreNewMemory(t *testing.T) {
	for what, from := range someMaltings() {
		m := withRoom(from)
		m.Event.Name = strings.Clone(m.Event.Name)
		acted, stepped := impl.MaltAct(m.World), impl.MaltStep(m.World, m.Event)
		checkOwnMemory(t, what, acted, m)
		checkOwnLists(t, what, acted, m)
		checkOwnMemory(t, what, stepped, m, acted)
		checkOwnLists(t, what, stepped, m, acted)
		again := impl.MaltAct(acted)
		checkOwnMemory(t, what, again, m, acted, stepped)
		checkOwnLists(t, what, again, m, acted, stepped)
		spoilMalt(acted)
		spoilMalt(stepped)
		checkActByReading(t, what+", behind an answer that was written into", m.World, counts{})
		checkMaltStepByReading(t, what+", behind an answer that was written into", m.World, m.Event, counts{})
	}
}

// What a row leads to is new memory as what one event leads to.
func TestWorldsBehindRowsOfMaltStepsAreNewMemory(t *testing.T) {
	dice := rand.New(rand.NewSource(726))
	for range 6 {
		w := rowFounded(dice)
		all := allRoutes(w.Ctl.Plant)
		for range 80 {
			e := withRoom(rowMaltEvents(dice, w, all)[0])
			e.Name = strings.Clone(e.Name)
			after := impl.MaltStep(w, e)
			checkOwnMemory(t, "a row", after, w, e)
			checkOwnLists(t, "a row", after, w, e)
			acted := impl.MaltAct(after)
			checkOwnMemory(t, "acted", acted, after, w, e)
			checkOwnLists(t, "acted", acted, after, w, e)
			w = calmBySteps(after)
		}
	}
}

func TestMaltStepsOfVeryLongLists(t *testing.T) {
	long := 200000
	name := strings.Repeat("b", 1<<20)
	w := moving(houseOf("keg tun", brewer("b", "look", 7)), 5, "b fill 1 malt 12")
	start := brewer("n", "fill", -1)
	for what, e := range map[string]impl.MaltEvent{
		"a long way":       {Kind: impl.MaltCtls, Ctl: impl.CtlEvent{Kind: impl.CtlMoves, Route: impl.PlantRoute{Places: numbered("p", long), Valves: numbered("v", long-1)}, Amount: 1}},
		"many places":      {Kind: impl.MaltCtls, Ctl: impl.CtlEvent{Kind: impl.CtlPlaces, Number: impl.ClaimClean, Places: numbered("p", long)}},
		"a long vessel":    {Kind: impl.MaltCtls, Ctl: flows(1, name)},
		"a long recipe":    {Kind: impl.MaltStarts, Name: "n", Recipe: slices.Repeat(start.Recipe, long), Slots: start.Slots},
		"many slots":       {Kind: impl.MaltStarts, Name: "n", Recipe: start.Recipe, Slots: slices.Repeat(start.Slots, long)},
		"a long name":      {Kind: impl.MaltStarts, Name: name, Recipe: start.Recipe, Slots: start.Slots},
		"a test of nobody": {Kind: impl.MaltTests, Name: name, Well: true},
		"another kind":     {Kind: math.MaxInt, Name: name, Recipe: slices.Repeat(start.Recipe, long)},
	} {
		checkMaltStep(t, what, w, e, w)
	}
}

// someActs is worlds, and what MaltAct makes of them.
func someActs() (all, wants []impl.MaltWorld) {
	some := someMalts()
	for _, what := range slices.Sorted(maps.Keys(some)) {
		all = append(all, some[what])
	}
	all = append(all, moving(houseOf("keg tun", brewer("b", "fill", 7)), 12, "b fill 1 malt 12"), movedMalt(houseOf("keg tun", brewer("b", "fill", 7)), 12, "b fill 1 malt 12"), spoiltMalts()["backwards"])
	for _, w := range all {
		wants = append(wants, actByReading(w, counts{}))
	}
	return all, wants
}

// What one call was given must not be seen in the next one, nor in one beside it.
func TestActingKeepsNothing(t *testing.T) {
	all, wants := someActs()
	var callers sync.WaitGroup
	for caller := range 8 {
		callers.Go(func() {
			for i := range 3 * len(all) {
				at := (i*7 + caller) % len(all)
				if after := impl.MaltAct(all[at]); !sameMalt(after, wants[at]) {
					t.Errorf("beside others: MaltAct = %+v; want %+v", after, wants[at])
				}
			}
		})
	}
	callers.Wait()
}

// Callers may ask of one world at once.
func TestActingOfOneWorldByManyCallers(t *testing.T) {
	w := documentsWorld(t)
	for range 5 {
		w = calmBySteps(w)
	}
	want, next := actByReading(w, counts{}), calmBySteps(w)
	var callers sync.WaitGroup
	for range 8 {
		callers.Go(func() {
			for range 20 {
				if after := impl.MaltAct(w); !sameMalt(after, want) {
					t.Errorf("by many: MaltAct = %+v; want %+v", after, want)
				}
				if after := calmBySteps(w); !sameMalt(after, next) {
					t.Errorf("by many: behind a round %+v; want %+v", after, next)
				}
				checkWantByReading(t, "by many", w, "b")
			}
		})
	}
	callers.Wait()
}

func TestGoroutinesOfActingHaveEnded(t *testing.T) {
	before := runtime.NumGoroutine()
	for _, m := range someMaltings() {
		impl.MaltAct(m.World)
		impl.MaltStep(m.World, m.Event)
		impl.MaltWant(m.World, "b")
		impl.MaltMeter(m.World, 3, "keg")
		impl.MaltWorldOk(m.World)
		impl.MaltOpen(m.World.Ctl.Plant, nil, m.World.House.Share.Things)
	}
	checkNoMoreGoroutines(t, before)
}

func TestActingHoweverGoroutinesRun(t *testing.T) {
	w := busyMalt()
	acted := actByReading(w, counts{})
	ticked := stepByReading(w, impl.MaltEvent{Kind: impl.MaltTicks}, counts{})
	howeverGoroutinesRun(func() {
		if after := impl.MaltAct(w); !sameMalt(after, acted) {
			t.Errorf("MaltAct = %+v; want %+v", after, acted)
		}
		checkMaltStep(t, "a tick", w, impl.MaltEvent{Kind: impl.MaltTicks}, ticked)
	})
}
