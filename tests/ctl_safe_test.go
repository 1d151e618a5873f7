package tests

import (
	"fmt"
	"math"
	"reflect"
	"slices"
	"strconv"
	"strings"
	"testing"

	"loop.example/malthouse/impl"
)

// told4 is what the four that say yes or no say of a world.
type told4 struct {
	Never, Between, Locked, Quiet bool
}

func toldOf(w impl.CtlWorld) told4 {
	return told4{impl.CtlNever(w), impl.CtlBetween(w), impl.CtlLocked(w), impl.CtlQuiet(w)}
}

func checkTold4(t *testing.T, what string, w impl.CtlWorld, want told4) {
	t.Helper()
	if got := toldOf(w); got != want {
		t.Errorf("%s: %+v; want %+v: %+v", what, got, want, w)
	}
}

func checkCalm(t *testing.T, what string, w impl.CtlWorld, rounds int, want impl.CtlWorld) {
	t.Helper()
	if got := impl.CtlCalm(w, rounds); !sameWorld(got, want) {
		t.Errorf("%s: CtlCalm of %d rounds = %+v; want %+v: %+v", what, rounds, got, want, w)
	}
}

// told4ByDefinition reads the chapter a second time.
func told4ByDefinition(w impl.CtlWorld) told4 {
	if !worldByDefinition(w) {
		return told4{}
	}
	all := told4{Never: !w.Spilt, Between: true, Locked: true, Quiet: w.Up}
	wet, held := map[string][]string{}, map[string]int{}
	for _, l := range w.Wet {
		wet[l.Place] = l.Stuffs
		all.Never = all.Never && !anyFoes(w.Plant, l.Stuffs)
	}
	for _, v := range w.Stuff.Vessels {
		for _, p := range v.Parts {
			held[v.Name] += p.Amount
		}
	}
	numbers := map[int]bool{}
	for _, j := range w.Mind.Jobs {
		numbers[j.Number] = true
		all.Quiet = all.Quiet && j.State == 2
	}
	for _, s := range w.Stations {
		for _, spot := range s.Disk.Spots {
			isIn := held[spot.Name] >= spot.Least && held[spot.Name] <= spot.Most
			all.Between = all.Between && isIn && amongByDefinition(wet[spot.Name], spot.May)
		}
		all.Quiet = all.Quiet && s.Up
		for _, p := range s.Mind.Parts {
			all.Quiet = all.Quiet && numbers[p.Want.Number]
		}
	}
	for _, number := range w.Inside {
		all.Locked = all.Locked && lockedByDefinition(w, number)
	}
	return all
}

func lockedByDefinition(w impl.CtlWorld, number int) bool {
	open := openedByDefinition(w)
	for _, j := range w.Disk.Jobs {
		if j.Number != number || j.Kind != 3 {
			continue
		}
		for _, v := range w.Plant.Valves {
			if open[v.Name] > 0 && (slices.Contains(j.Places, v.A) || slices.Contains(j.Places, v.B)) {
				return false
			}
		}
		for _, a := range jobAsksByDefinition(w.Plant, j) {
			isIt := func(p impl.ClaimPart) bool { return reflect.DeepEqual(copied(p.Want), copied(a.Want)) }
			if !slices.ContainsFunc(atStation(&w, a.Station).Disk.Parts, isIt) {
				return false
			}
		}
		return true
	}
	return false
}

func calmByDefinition(w impl.CtlWorld, rounds int) impl.CtlWorld {
	if !worldByDefinition(w) {
		return impl.CtlWorld{}
	}
	after := copied(w)
	for range min(rounds, 200) {
		for at := range len(after.Stations) + 1 {
			writesByDefinition(&after, at)
		}
		for range len(after.Radio) {
			stepsByDefinition(&after, happens(1, 0, 0))
		}
		stepsByDefinition(&after, happens(10, 0, 0))
	}
	return after
}

// checkSafeByReading asks all five of a world.
func checkSafeByReading(t *testing.T, what string, w impl.CtlWorld) told4 {
	t.Helper()
	want := told4ByDefinition(w)
	checkTold4(t, what, w, want)
	checkCalm(t, what, w, 1, calmByDefinition(w, 1))
	return want
}

// calmCellar is a world of which all four are true, with somebody inside.
func calmCellar() impl.CtlWorld {
	w := begun(cellar(), fill("l1", "ale", "keg", 12), fill("m1", "malt", "tun", 3))
	jobs := []impl.CtlJob{cellarMove(), in(impl.CtlRunning, "", 0, stillJob(4, impl.ClaimPermit, "k vat"))}
	for _, j := range jobs {
		grantAll(&w, j)
	}
	w.Mind = impl.CtlMaster{Last: 4, Jobs: jobs, Left: leftIn(w.Plant, "j:ale keg:ale tun:ale,malt")}
	w.Disk, w.Inside = copied(w.Mind), []int{4}
	return copied(w)
}

func TestWorldsOfWhichAllHolds(t *testing.T) {
	all := told4{true, true, true, true}
	checkTold4(t, "calm", calmCellar(), all)
	for what, w := range map[string]impl.CtlWorld{"new": begun(cellar()), "filled": begun(cellar(), fill("l1", "ale", "keg", 12)), "of nothing": {Up: true}} {
		checkTold4(t, what, w, all)
	}
	for what, w := range someWorlds() {
		checkSafeByReading(t, what, w)
	}
	for what, w := range spoiltWorlds() {
		checkTold4(t, what, w, told4{})
	}
	for what, w := range longWorlds() {
		checkTold4(t, what, w, told4{})
	}
}

// checkJustNot asks that of the four just these do not hold of the calm cellar behind a change.
func checkJustNot(t *testing.T, what string, not told4, change func(w *impl.CtlWorld)) {
	t.Helper()
	w := otherWorld(calmCellar(), change)
	checkWorld(t, what, w, true)
	checkTold4(t, what, w, told4{!not.Never, !not.Between, !not.Locked, !not.Quiet})
	if told4ByDefinition(w) != toldOf(w) {
		t.Errorf("%s: by reading %+v", what, told4ByDefinition(w))
	}
}

func TestNeverMet(t *testing.T) {
	checkJustNot(t, "spilt", told4{Never: true}, func(w *impl.CtlWorld) { w.Spilt = true })
	for i, place := range namesOfPlaces(cellar()) {
		checkJustNot(t, "foes in "+place, told4{Never: true, Between: true}, func(w *impl.CtlWorld) { w.Wet[i].Stuffs = []string{"ale", "lye"} })
		checkJustNot(t, "foes in "+place, told4{Never: true, Between: true}, func(w *impl.CtlWorld) { w.Wet[i].Stuffs = []string{"ale", "lye", "malt"} })
	}
	checkJustNot(t, "no foes", told4{}, func(w *impl.CtlWorld) { w.Wet[3].Stuffs = []string{"ale", "malt"} })
	checkJustNot(t, "foes in two places", told4{Between: true}, func(w *impl.CtlWorld) { w.Wet[3].Stuffs = []string{"lye", "malt"} })
	checkJustNot(t, "other foes", told4{Between: true}, func(w *impl.CtlWorld) { w.Wet[1].Stuffs = []string{"lye", "malt"} })
	checkJustNot(t, "foes that may be left", told4{}, func(w *impl.CtlWorld) {
		w.Mind.Left, w.Disk.Left = leftIn(w.Plant, "j:ale,lye"), leftIn(w.Plant, "j:ale,lye")
	})
}

func TestBetweenLeastAndMost(t *testing.T) {
	// The keg has 7 to 12, the tun 3 to 8, the vat nothing.
	for amount := 1; amount <= 20; amount++ {
		checkJustNot(t, "in the keg", told4{Between: amount < 7 || amount > 12}, func(w *impl.CtlWorld) {
			w.Stuff.Vessels[0].Parts = parts("l1:" + strconv.Itoa(amount))
		})
		checkJustNot(t, "in the tun", told4{Between: amount < 3 || amount > 8}, func(w *impl.CtlWorld) {
			w.Stuff.Vessels[1].Parts = parts("m1:" + strconv.Itoa(amount))
		})
		if amount <= 9 {
			checkJustNot(t, "in the vat", told4{Between: true}, func(w *impl.CtlWorld) { w.Stuff.Vessels[2] = vessel("vat", 9, "m1:"+strconv.Itoa(amount), "m1") })
		}
	}
	for amounts, isBetween := range map[string]bool{"l1:3 m1:4": true, "l1:6 m1:6": true, "l1:3 m1:3": false, "l1:6 m1:7": false} {
		checkJustNot(t, "of several lots", told4{Between: !isBetween}, func(w *impl.CtlWorld) { w.Stuff.Vessels[0] = vessel("keg", 20, amounts, "l1 m1") })
	}
	checkJustNot(t, "the mind does not count", told4{}, func(w *impl.CtlWorld) { w.Stations[0].Mind.Spots[0].Least = 2 })
	checkJustNot(t, "nor does it", told4{}, func(w *impl.CtlWorld) { w.Stations[3].Mind.Spots[1].Most = 40 })
	checkJustNot(t, "the disk does", told4{Between: true}, func(w *impl.CtlWorld) {
		w.Stations[1].Disk = copied(w.Stations[1].Disk)
		w.Stations[1].Disk.Spots[1].Least, w.Stations[1].Disk.Spots[1].Most = 1, 9
	})
}

func TestBetweenWhatIsWetAndMayBeLeft(t *testing.T) {
	checkJustNot(t, "wet with all that may be left", told4{}, func(w *impl.CtlWorld) { w.Wet = leftIn(w.Plant, "j:ale keg:ale tun:ale,malt") })
	checkJustNot(t, "wet with nothing", told4{}, func(w *impl.CtlWorld) { w.Wet = leftIn(w.Plant, "") })
	for i, place := range namesOfPlaces(cellar()) {
		for _, stuff := range []string{"ale", "lye", "malt"} {
			isLeft := slices.Contains(strings.Fields("j:ale keg:ale tun:ale tun:malt"), place+":"+stuff)
			checkJustNot(t, place+" wet with "+stuff, told4{Between: !isLeft}, func(w *impl.CtlWorld) { w.Wet[i].Stuffs = []string{stuff} })
		}
	}
	checkJustNot(t, "a station that fell", told4{Between: true, Quiet: true}, func(w *impl.CtlWorld) {
		*w = fallen(*w, 4)
		w.Wet[0].Stuffs = []string{"malt"}
	})
	checkJustNot(t, "what may be left by the mind does not count", told4{}, func(w *impl.CtlWorld) { w.Stations[1].Mind.Spots[0].May = []string{"lye"} })
}

func TestLockedWhereSomebodyWorks(t *testing.T) {
	checkJustNot(t, "nobody", told4{}, func(w *impl.CtlWorld) { w.Inside = nil })
	checkJustNot(t, "no such job", told4{Locked: true}, func(w *impl.CtlWorld) { w.Inside = []int{5} })
	checkJustNot(t, "one more", told4{Locked: true}, func(w *impl.CtlWorld) { w.Inside = []int{4, 5} })
	checkJustNot(t, "one ahead", told4{Locked: true}, func(w *impl.CtlWorld) { w.Inside = []int{2, 4} })
	checkJustNot(t, "a move", told4{Locked: true}, func(w *impl.CtlWorld) { w.Inside = []int{3} })
	checkJustNot(t, "not on the master's disk", told4{Locked: true}, func(w *impl.CtlWorld) { w.Disk.Jobs = w.Disk.Jobs[:1] })
	checkJustNot(t, "a cleaning", told4{Locked: true}, func(w *impl.CtlWorld) { w.Disk.Jobs[1].Kind = impl.ClaimClean })
	checkJustNot(t, "in the master's mind alone", told4{Locked: true}, func(w *impl.CtlWorld) { w.Disk.Jobs = nil })
	checkJustNot(t, "on the master's disk alone", told4{Quiet: true}, func(w *impl.CtlWorld) { w.Mind.Jobs = w.Mind.Jobs[:1] })
	checkJustNot(t, "the master fell", told4{Quiet: true}, func(w *impl.CtlWorld) { *w = fallen(*w, 0) })
	for state := 1; state <= 4; state++ {
		checkJustNot(t, "in any state", told4{}, func(w *impl.CtlWorld) { w.Disk.Jobs[1].State = state })
	}
	for at, isAsked := range []bool{false, true, true, false} {
		checkJustNot(t, "not on a disk", told4{Locked: isAsked, Between: at == 0 || at == 3}, func(w *impl.CtlWorld) {
			w.Stations[at].Disk = begun(w.Plant).Stations[at].Disk
		})
		checkJustNot(t, "on the disk alone", told4{Quiet: true}, func(w *impl.CtlWorld) { *w = fallen(*w, at+1) })
	}
	for at, others := range map[int][]impl.ClaimWant{
		1: {permitOf(4, "k", ""), permitOf(4, "vat", ""), cleanOf(4, "k vat", ""), permitOf(5, "k vat", "")},
		2: {permitOf(4, "", "c"), permitOf(4, "", "d"), cleanOf(4, "", "c d"), permitOf(5, "", "c d")},
	} {
		for _, other := range others {
			checkJustNot(t, "another one on a disk", told4{Locked: true}, func(w *impl.CtlWorld) {
				disk := &w.Stations[at].Disk
				disk.Parts[len(disk.Parts)-1].Want, disk.Seen = other, 5
			})
		}
		checkJustNot(t, "stopped on a disk", told4{}, func(w *impl.CtlWorld) {
			disk := &w.Stations[at].Disk
			disk.Parts[len(disk.Parts)-1].Stopped = true
		})
	}
}

// Where somebody works no valve may be open, whoever opens it, even if it was not asked to be kept shut.
func TestLockedWhereAValveIsOpen(t *testing.T) {
	for _, valve := range []string{"c", "d"} {
		checkJustNot(t, valve, told4{Locked: true}, func(w *impl.CtlWorld) {
			s := &w.Stations[2]
			s.Mind.Parts, s.Mind.Seen, s.On = granted(moveOf(3, "ale", "", valve, "")), 4, []int{3}
		})
		checkJustNot(t, valve+", not on", told4{}, func(w *impl.CtlWorld) {
			s := &w.Stations[2]
			s.Mind.Parts, s.Mind.Seen, s.On = granted(moveOf(3, "ale", "", valve, "")), 4, nil
		})
		checkJustNot(t, valve+", and who opened it fell", told4{Quiet: true}, func(w *impl.CtlWorld) { *w = fallen(*w, 3) })
	}
	// Under two permits both are looked at.
	for _, open := range []bool{false, true} {
		w := begun(cellar(), fill("l1", "ale", "keg", 12))
		jobs := []impl.CtlJob{in(impl.CtlRunning, "", 0, stillJob(4, impl.ClaimPermit, "vat")), in(impl.CtlRunning, "", 0, stillJob(6, impl.ClaimPermit, "tun"))}
		for _, j := range jobs {
			grantAll(&w, j)
		}
		w.Mind.Last, w.Mind.Jobs, w.Inside = 6, jobs, []int{4, 6}
		w.Disk = copied(w.Mind)
		if open {
			s := atStation(&w, "west")
			s.Mind.Parts, s.On = granted(moveOf(6, "ale", "", "a", "")), []int{6}
		}
		checkTold4(t, "two permits", w, told4{true, true, !open, true})
	}
}

func TestQuiet(t *testing.T) {
	for at := range 5 {
		checkJustNot(t, "one fell", told4{Quiet: true}, func(w *impl.CtlWorld) { *w = fallen(*w, at) })
	}
	for state := 1; state <= 4; state++ {
		for at := range 2 {
			checkJustNot(t, "a state", told4{Quiet: state != impl.CtlRunning}, func(w *impl.CtlWorld) { w.Mind.Jobs[at].State = state })
		}
	}
	checkJustNot(t, "a part of nobody", told4{Quiet: true}, func(w *impl.CtlWorld) { w.Mind.Jobs = w.Mind.Jobs[1:] })
	checkJustNot(t, "a part of nobody, at one station", told4{Quiet: true}, func(w *impl.CtlWorld) {
		w.Stations[0].Mind.Parts = append(w.Stations[0].Mind.Parts, granted(permitOf(5, "", "b"))...)
		w.Stations[0].Mind.Parts[0].Want.Opens, w.Stations[0].Mind.Seen = nil, 5
	})
	checkJustNot(t, "a part on a disk alone", told4{}, func(w *impl.CtlWorld) { w.Stations[0].Mind.Parts, w.Stations[0].On = nil, nil })
	checkJustNot(t, "a part that is stopped", told4{}, func(w *impl.CtlWorld) { w.Stations[0].Mind.Parts[0].Stopped, w.Stations[0].On = true, nil })
	checkJustNot(t, "another want of the same number", told4{}, func(w *impl.CtlWorld) { w.Stations[2].Mind.Parts[0].Want.Shuts = []string{"d"} })
	checkJustNot(t, "words under way", told4{}, func(w *impl.CtlWorld) { w.Radio, w.Out = repeated(3), repeated(2) })
	checkJustNot(t, "jobs on the disk", told4{Locked: true}, func(w *impl.CtlWorld) { w.Disk.Jobs = nil })
}

func TestOneCalmRound(t *testing.T) {
	w := busyCellar()
	// All write, the master first, all words come, in order, and then the master says what it has to say.
	want := copied(w)
	for at := range 5 {
		want = impl.CtlStep(want, happens(impl.CtlWrites, at, 0))
	}
	if many := len(want.Radio); many != 12 || want.Radio[7].Kind != impl.CtlEnter || want.Radio[9].Kind != impl.CtlGone || want.Radio[10].Kind != impl.CtlGrants {
		t.Errorf("%d words: %+v", many, want.Radio)
	}
	for range 12 {
		want = impl.CtlStep(want, happens(impl.CtlBrings, 0, 0))
	}
	want = impl.CtlStep(want, happens(impl.CtlSays, 0, 0))
	checkCalm(t, "busy", w, 1, want)
	checkCalm(t, "busy, by reading", w, 1, calmByDefinition(w, 1))
	for what, w := range someWorlds() {
		checkCalm(t, what, w, 1, calmByDefinition(w, 1))
	}
	for what, w := range spoiltWorlds() {
		checkCalm(t, what, w, 1, impl.CtlWorld{})
	}
	for what, w := range longWorlds() {
		checkCalm(t, what, w, 200, impl.CtlWorld{})
	}
	for downs := range 32 {
		down := pick([]int{0, 1, 2, 3, 4}, downs)
		checkCalm(t, fmt.Sprint(down, " fell"), fallen(w, down...), 1, calmByDefinition(fallen(w, down...), 1))
	}
}

// What is said while words come is under way until the next round.
func TestWhatIsSaidInACalmRound(t *testing.T) {
	w := onRadio(begun(cellar()), said(impl.CtlEnter, "", 2, 0), said(impl.CtlEnter, "", 3, 0), said(impl.CtlEnter, "", 2, 0))
	w.Tags = []int{2}
	want := copied(w)
	want.Inside, want.Radio = []int{3}, repeatedSigned(2, 2)
	checkCalm(t, "one round", w, 1, want)
	want.Radio = nil
	checkCalm(t, "two rounds", w, 2, want)
	// What there is no room for on the radio is lost, that of the later computers first.
	full := busyCellar()
	full.Radio = repeated(58)
	for _, many := range []int{56, 57, 58, 59, 60} {
		full.Radio = repeated(many)
		checkCalm(t, "a full radio", full, 1, calmByDefinition(full, 1))
	}
	full.Out = repeated(60)
	checkCalm(t, "all full", full, 1, calmByDefinition(full, 1))
}

func TestHowManyCalmRounds(t *testing.T) {
	w := calmCellar()
	for _, rounds := range []int{math.MinInt, -200, -1, 0} {
		checkCalm(t, "none", w, rounds, w)
		checkCalm(t, "none of a world that is not ok", otherWorld(w, func(w *impl.CtlWorld) { w.Meters = make([]impl.CtlMeter, 1) }), rounds, impl.CtlWorld{})
	}
	for _, rounds := range []int{1, 2, 3, 7} {
		checkCalm(t, "some", w, rounds, calmByDefinition(w, rounds))
	}
	// Whatever was under way, it has come to rest long before the last round.
	w = busyCellar()
	after := copied(w)
	for rounds := 1; rounds <= 12; rounds++ {
		after = calmByDefinition(after, 1)
		checkCalm(t, "one by one", w, rounds, after)
	}
	for _, rounds := range []int{199, 200, 201, 202, 1000, 1 << 32, math.MaxInt} {
		checkCalm(t, "many", w, rounds, after)
	}
}

// A move, a cleaning and a permit from the beginning to the end, in calm rounds alone but for what is done.
func TestWholeJobsInCalmRounds(t *testing.T) {
	all := told4{true, true, true, true}
	w := begun(cellar(), fill("l1", "ale", "keg", 12))
	happen := func(e impl.CtlEvent) {
		w = checkStepByReading(t, "a whole job", w, e)
		checkWorld(t, "a whole job", w, true)
	}
	calm := func(rounds int) {
		want := calmByDefinition(w, rounds)
		checkCalm(t, "a whole job", w, rounds, want)
		w = want
	}
	happen(impl.CtlEvent{Kind: impl.CtlMoves, Route: route("keg b j a tun"), Amount: 5})
	calm(3)
	checkOpened(t, "moving", w)
	calm(1)
	checkOpened(t, "moving", w, "a", "b")
	for range 4 {
		happen(flows(1, "tun"))
	}
	happen(happens(impl.CtlHalts, 0, 1))
	calm(8)
	checkTold4(t, "moved", w, all)
	if len(w.Mind.Jobs) > 0 || w.Stations[0].Disk.Spots[0].Least != 8 || w.Stations[0].Disk.Spots[0].Most != 8 || w.Stations[3].Disk.Spots[1].Most != 4 {
		t.Errorf("%+v", w)
	}
	happen(impl.CtlEvent{Kind: impl.CtlPlaces, Number: impl.ClaimClean, Places: []string{"j"}})
	calm(4)
	for at := range 5 {
		happen(happens(impl.CtlCleans, at, 2))
	}
	happen(happens(impl.CtlHalts, 0, 2))
	calm(8)
	checkTold4(t, "cleaned", w, all)
	if len(w.Mind.Jobs) > 0 || len(w.Wet[0].Stuffs) > 0 || len(w.Mind.Left[0].Stuffs) > 0 || len(w.Stations[3].Disk.Spots[0].May) > 0 {
		t.Errorf("%+v", w)
	}
	happen(impl.CtlEvent{Kind: impl.CtlPlaces, Number: impl.ClaimPermit, Places: []string{"j", "k"}})
	calm(5)
	checkTold4(t, "worked on", w, all)
	if !slices.Equal(w.Inside, []int{3}) {
		t.Errorf("%v is inside", w.Inside)
	}
	happen(happens(impl.CtlSigns, 0, 3))
	calm(8)
	checkTold4(t, "signed off", w, all)
	if len(w.Mind.Jobs) > 0 || len(w.Inside) > 0 || !slices.Equal(w.Tags, []int{3}) {
		t.Errorf("%+v", w)
	}
}
