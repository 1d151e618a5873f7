package tests

import (
	"fmt"
	"math"
	"math/rand"
	"reflect"
	"slices"
	"strconv"
	"strings"
	"sync"
	"testing"

	"loop.example/malthouse/impl"
)

func sameStation(a, b impl.CtlStation) bool {
	return reflect.DeepEqual(copied(a), copied(b))
}

func checkHear(t *testing.T, what string, s impl.CtlStation, w impl.CtlWord, meter int, want impl.CtlStation) {
	t.Helper()
	if got := impl.CtlHear(s, w, meter); !sameStation(got, want) {
		t.Errorf("%s: CtlHear of %+v and %d = %+v; want %+v: %+v", what, w, meter, got, want, s)
	}
}

// checkHeard asks for the station with a change, and with an answer of this kind behind Out, or none, if the kind is 0.
func checkHeard(t *testing.T, what string, s impl.CtlStation, w impl.CtlWord, meter int, kind, moved int, change func(s *impl.CtlStation)) {
	t.Helper()
	want := copied(s)
	if kind > 0 {
		want.Out = append(want.Out, impl.CtlWord{Kind: kind, Station: w.Station, Number: w.Number, Moved: moved})
	}
	change(&want)
	checkHear(t, what, s, w, meter, want)
}

// checkNotHeard asks for the station as it is.
func checkNotHeard(t *testing.T, what string, s impl.CtlStation, w impl.CtlWord, meter int) {
	t.Helper()
	checkHear(t, what, s, w, meter, s)
}

func asIs(*impl.CtlStation) {}

// manyParts has as many parts as there can be, of each kind: out of a place, into one, with valves alone, cleanings with a place and without, a permit.
func manyParts(stopped ...int) impl.ClaimBook {
	b := impl.ClaimBook{
		Foes: claimFoes("ale/lye", "lye/malt"),
		Spots: []impl.ClaimSpot{
			spot("bin", 50, 20, 30, "ale malt"), spot("keg", 40, 10, 25, "ale"), spot("pan", 9, 0, 0, "lye"),
			spot("tun", 100, 60, 62, "ale"), spot("vat", 30, 5, 5, "malt"),
		},
		Valves: strings.Fields("v1 v2 v3 v4 v5 v6 v7"),
		Parts: granted(moveOf(2, "ale", "keg>15", "v1", "v7"), moveOf(3, "ale malt", "bin<10", "v2", "v7"), moveOf(5, "water", "", "v3", "v4"),
			cleanOf(6, "pan", "v4"), cleanOf(8, "", "v5 v6"), permitOf(9, "tun", "v6")),
		Seen: 11,
	}
	for i := range b.Parts {
		b.Parts[i].Stopped = slices.Contains(stopped, b.Parts[i].Want.Number)
	}
	return b
}

// stationWith has a disk and an Out that no word has to do with.
func stationWith(b impl.ClaimBook, on ...int) impl.CtlStation {
	return impl.CtlStation{Up: true, Mind: b, Disk: smallStation(), On: on, Out: []impl.CtlWord{said(impl.CtlGone, "east", 1, 0)}}
}

// asked is the word that asks for a want under its own number.
func asked(station string, w impl.ClaimWant) impl.CtlWord {
	return impl.CtlWord{Kind: impl.CtlAsks, Station: station, Number: w.Number, Want: w}
}

// over is the word that something is over.
func over(station string, number, moved int, done bool) impl.CtlWord {
	return impl.CtlWord{Kind: impl.CtlOvers, Station: station, Number: number, Moved: moved, Done: done}
}

// heardKinds is a word of each kind that stations hear, which changes the station with few parts.
func heardKinds() []impl.CtlWord {
	return []impl.CtlWord{asked("west", moveOf(12, "malt", "vat>5", "v1", "")), said(impl.CtlGoes, "west", 5, 0), said(impl.CtlStops, "west", 3, 0), over("west", 8, 1, true)}
}

// fewParts leaves room for one more, and one is stopped.
func fewParts() impl.ClaimBook {
	b := manyParts(8)
	b.Parts = slices.Delete(b.Parts, 0, 1)
	return b
}

func TestEachKindOfWordThatAStationHears(t *testing.T) {
	s := stationWith(fewParts(), 3)
	checkClaims(t, "few parts", s.Mind, true)
	checkClaims(t, "many parts", manyParts(), true)
	for _, w := range heardKinds() {
		if sameStation(impl.CtlHear(s, w, 4), s) {
			t.Errorf("%+v changes nothing", w)
		}
	}
	for _, kind := range []int{math.MinInt, -1, 0, impl.CtlGrants, impl.CtlDenies, impl.CtlStopped, impl.CtlGone, impl.CtlEnter, impl.CtlSigned, 11, 12, 257, 1 + 1<<32, math.MaxInt} {
		for _, w := range heardKinds() {
			w.Kind = kind
			checkNotHeard(t, "another kind", s, w, 4)
		}
	}
}

func TestStationsThatHearNothing(t *testing.T) {
	for _, w := range heardKinds() {
		s := stationWith(fewParts(), 3)
		s.Up = false
		checkNotHeard(t, "not up", s, w, 4)
		s = stationWith(fewParts(), 3)
		for _, meter := range []int{math.MinInt, -1, 1001, math.MaxInt} {
			checkNotHeard(t, "a meter", s, w, meter)
		}
		for _, number := range []int{math.MinInt, -1, 0, 1000001, 3 + 1<<32, math.MaxInt} {
			w := w
			w.Number, w.Want.Number = number, 12
			checkNotHeard(t, "a number", s, w, 4)
		}
		for i, b := range spoiltClaims() {
			w := w
			w.Number, w.Want.Number = 8, 12
			checkNotHeard(t, "not ok "+strconv.Itoa(i), stationWith(b, 8), w, 4)
		}
		s.Mind.Seen = 8
		checkNotHeard(t, "just not ok", s, w, 4)
		checkNotHeard(t, "nothing", impl.CtlStation{}, w, 4)
	}
}

// What is on the disk, of whom a word is, and what is in On and Out does not keep a station from hearing.
func TestStationsThatAreNotAsTheyShouldBeHear(t *testing.T) {
	s := stationWith(fewParts(), 9, 3, 3, -1)
	s.Disk, s.Out = spoiltClaims()[0], []impl.CtlWord{{}}
	checkHeard(t, "stopped", s, said(impl.CtlStops, "", 3, 0), 4, impl.CtlStopped, 0, func(s *impl.CtlStation) {
		s.Mind.Parts[0].Stopped, s.On = true, []int{9, -1}
	})
	checkHeard(t, "goes, ahead of one that is not less", s, said(impl.CtlGoes, "none", 5, 0), 4, 0, 0, func(s *impl.CtlStation) { s.On = []int{5, 9, 3, 3, -1} })
	checkHeard(t, "over", s, over("Nobody", 8, 0, false), 4, impl.CtlGone, 0, func(s *impl.CtlStation) { s.Mind.Parts = slices.Delete(s.Mind.Parts, 3, 4) })
	nobody := impl.CtlStation{Up: true}
	checkHeard(t, "a station without anything", nobody, said(impl.CtlStops, "east", 3, 0), 0, impl.CtlStopped, 0, func(s *impl.CtlStation) { s.Mind.Seen = 3 })
}

func TestNumbersAndMetersThatAreHeard(t *testing.T) {
	for _, number := range []int{1, 2, 999999, impl.ClaimMaxNumber} {
		b := smallStation()
		s := stationWith(b)
		checkHeard(t, "stops", s, said(impl.CtlStops, "east", number, 0), 0, impl.CtlStopped, 0, func(s *impl.CtlStation) { s.Mind.Seen = number })
		checkHeard(t, "over", s, over("east", number, 0, false), 0, impl.CtlGone, 0, asIs)
		checkHeard(t, "asks", s, asked("east", permitOf(number, "j", "u")), 0, impl.CtlGrants, 0, func(s *impl.CtlStation) {
			s.Mind.Parts, s.Mind.Seen = granted(permitOf(number, "j", "u")), number
		})
		b.Parts, b.Seen = granted(moveOf(number, "a", "p>2", "u", "")), number
		b.Spots[1].Least = 0
		s = stationWith(b)
		checkHeard(t, "goes", s, said(impl.CtlGoes, "east", number, 0), 0, 0, 0, func(s *impl.CtlStation) { s.On = []int{number} })
		for _, meter := range []int{0, 1, 2, 3, 999, impl.ClaimMaxCap} {
			checkHeard(t, "stops, by its meter", s, said(impl.CtlStops, "east", number, 0), meter, impl.CtlStopped, meter, func(s *impl.CtlStation) { s.Mind.Parts[0].Stopped = true })
		}
	}
}

func TestAsksThatAreGrantedOrNot(t *testing.T) {
	s := stationWith(freeClaims(), 5)
	codes := map[int]int{}
	for _, w := range append(askedOfFree(), permitOf(8, "none", ""), permitOf(3, "j", ""), freeClaims().Parts[1].Want, freeClaims().Parts[0].Want, cleanOf(8, "bin", "")) {
		if w.Number < 1 || w.Number > impl.ClaimMaxNumber {
			continue
		}
		mind, code := grantByDefinition(s.Mind, w)
		codes[code]++
		for _, meter := range []int{0, 7} {
			checkHeard(t, fmt.Sprint("code ", code), s, asked("east", w), meter, choose(code == 0, impl.CtlGrants, impl.CtlDenies), 0, func(s *impl.CtlStation) { s.Mind = mind })
		}
		// What was granted is granted once more; what was not is not.
		again := impl.CtlHear(s, asked("east", w), 0)
		checkHeard(t, fmt.Sprint("again ", code), again, asked("east", w), 0, choose(code == 0, impl.CtlGrants, impl.CtlDenies), 0, asIs)
	}
	for _, code := range []int{0, 2, 3, 4, 6, 7, 8, 9, 10, 11} {
		if codes[code] == 0 {
			t.Errorf("no ask has the code %d: %v", code, codes)
		}
	}
	w := permitOf(12, "vat", "")
	checkHeard(t, "one too many", stationWith(manyParts()), asked("east", w), 0, impl.CtlDenies, 0, func(s *impl.CtlStation) { s.Mind.Seen = 12 })
	checkHeard(t, "the last that there can be", stationWith(fewParts()), asked("east", w), 0, impl.CtlGrants, 0, func(s *impl.CtlStation) {
		s.Mind.Parts, s.Mind.Seen = append(s.Mind.Parts, granted(w)...), 12
	})
}

// A want under another number than the word's is granted, and denied all the same.
func TestAsksUnderAnotherNumber(t *testing.T) {
	s := stationWith(fewParts(), 3)
	for _, number := range []int{1, 3, 11, 12, 14, impl.ClaimMaxNumber} {
		w := asked("east", permitOf(13, "vat", "v1"))
		w.Number = number
		checkHeard(t, "granted under its own", s, w, 0, impl.CtlDenies, 0, func(s *impl.CtlStation) {
			s.Mind.Parts, s.Mind.Seen = append(s.Mind.Parts, granted(w.Want)...), 13
		})
		w.Want = cleanOf(13, "vat", "")
		checkHeard(t, "refused under its own", s, w, 0, impl.CtlDenies, 0, func(s *impl.CtlStation) { s.Mind.Seen = 13 })
		w.Want = permitOf(9, "tun", "v6")
		w.Number = choose(number == 3, 5, number)
		checkHeard(t, "granted already", s, w, 0, impl.CtlDenies, 0, asIs)
		w.Want = permitOf(0, "vat", "v1")
		checkHeard(t, "not ok", s, w, 0, impl.CtlDenies, 0, asIs)
	}
	checkHeard(t, "under its own", s, asked("east", permitOf(9, "tun", "v6")), 0, impl.CtlGrants, 0, asIs)
	checkHeard(t, "no want", s, said(impl.CtlAsks, "east", 12, 0), 0, impl.CtlDenies, 0, asIs)
}

func TestAskBehindItsStop(t *testing.T) {
	for _, number := range []int{12, 13, 500} {
		s := stationWith(fewParts(), 3)
		s = impl.CtlHear(s, said(impl.CtlStops, "east", number, 0), 3)
		for ahead := 10; ahead <= number; ahead += max(1, number-13) {
			checkHeard(t, "behind its stop", s, asked("east", permitOf(ahead, "vat", "v1")), 0, impl.CtlDenies, 0, asIs)
			s = impl.CtlHear(s, asked("east", permitOf(ahead, "vat", "v1")), 0)
			checkHeard(t, "it does not go", s, said(impl.CtlGoes, "east", ahead, 0), 0, 0, 0, asIs)
		}
		w := permitOf(number+1, "vat", "v1")
		checkHeard(t, "the next one", s, asked("east", w), 0, impl.CtlGrants, 0, func(s *impl.CtlStation) {
			s.Mind.Parts, s.Mind.Seen = append(s.Mind.Parts, granted(w)...), number+1
		})
	}
	// Of what was granted, stopped and is over nothing is granted again.
	s := stationWith(fewParts(), 3)
	w := permitOf(12, "vat", "v1")
	for _, word := range []impl.CtlWord{asked("east", w), said(impl.CtlGoes, "east", 12, 0), said(impl.CtlStops, "east", 12, 0)} {
		s = impl.CtlHear(s, word, 0)
	}
	checkHeard(t, "what is stopped is still there", s, asked("east", w), 0, impl.CtlGrants, 0, asIs)
	checkHeard(t, "and does not go", s, said(impl.CtlGoes, "east", 12, 0), 0, 0, 0, asIs)
	s = impl.CtlHear(s, over("east", 12, 0, false), 0)
	checkHeard(t, "what is over", s, asked("east", w), 0, impl.CtlDenies, 0, asIs)
	checkHeard(t, "what is over does not go", s, said(impl.CtlGoes, "east", 12, 0), 0, 0, 0, asIs)
}

func TestWhatIsToldToGo(t *testing.T) {
	b := manyParts(6)
	for _, number := range []int{1, 4, 7, 10, 11, 12, 6} {
		checkNotHeard(t, "no part, or one that is stopped", stationWith(b, 3), said(impl.CtlGoes, "east", number, 0), 3)
		checkNotHeard(t, "in On all the same", stationWith(b, 3, number), said(impl.CtlGoes, "east", number, 0), 3)
	}
	for _, on := range [][]int{nil, {2}, {5}, {9}, {2, 3}, {2, 9}, {3, 5, 8}, {2, 3, 5, 8, 9}} {
		for _, number := range []int{2, 3, 5, 8, 9} {
			want := slices.Compact(slices.Sorted(slices.Values(append(slices.Clone(on), number))))
			checkHeard(t, "goes", stationWith(b, on...), said(impl.CtlGoes, "east", number, 0), 3, 0, 0, func(s *impl.CtlStation) { s.On = want })
		}
	}
	// Where On is in no order, the first that is not less is looked for.
	for on, want := range map[string][]int{"9 2": {5, 9, 2}, "2 9 5": {2, 5, 9, 5}, "5 2": {5, 2}, "2 5 5": {2, 5, 5}, "3 2 3": {3, 2, 3, 5}, "-1 7": {-1, 5, 7}} {
		var list []int
		for _, text := range strings.Fields(on) {
			number, _ := strconv.Atoi(text)
			list = append(list, number)
		}
		checkHeard(t, on, stationWith(b, list...), said(impl.CtlGoes, "east", 5, 0), 3, 0, 0, func(s *impl.CtlStation) { s.On = want })
	}
}

func TestWhatIsToldToStop(t *testing.T) {
	for _, meter := range []int{0, 1, 15, 16, 1000} {
		for _, on := range [][]int{nil, {2, 3, 5, 6, 8, 9}} {
			s := stationWith(manyParts(), on...)
			// By the part: out of a place, and a cleaning with places, tell what the meter tells.
			for number, moved := range map[int]int{2: meter, 3: 0, 5: 0, 6: meter, 8: 1, 9: 0} {
				at := slices.IndexFunc(s.Mind.Parts, func(p impl.ClaimPart) bool { return p.Want.Number == number })
				stop := func(s *impl.CtlStation) {
					s.Mind.Parts[at].Stopped = true
					s.On = slices.DeleteFunc(s.On, func(n int) bool { return n == number })
				}
				w := said(impl.CtlStops, "east", number, 0)
				checkHeard(t, "stops", s, w, meter, impl.CtlStopped, moved, stop)
				w.Moved, w.Done = 7, true
				checkHeard(t, "whatever else it says", s, w, meter, impl.CtlStopped, moved, stop)
				again := impl.CtlHear(s, w, meter)
				checkHeard(t, "twice", again, w, meter, impl.CtlStopped, moved, asIs)
			}
		}
	}
	for number, seen := range map[int]int{1: 11, 4: 11, 10: 11, 11: 11, 12: 12, 13: 13, 1000000: 1000000} {
		s := stationWith(manyParts(), 2, 4, 9, 12)
		w := said(impl.CtlStops, "east", number, 0)
		checkHeard(t, "no part", s, w, 5, impl.CtlStopped, 0, func(s *impl.CtlStation) {
			s.Mind.Seen, s.On = seen, slices.DeleteFunc(s.On, func(n int) bool { return n == number })
		})
		checkHeard(t, "no part, twice", impl.CtlHear(s, w, 5), w, 5, impl.CtlStopped, 0, asIs)
	}
}

// The meter counts for a part that moves out of a place, whatever else it does; into a place, and by one, it does not.
func TestWhatIsMovedWhenItStops(t *testing.T) {
	for uses, isPumped := range map[string]bool{"p>2": true, "j p>1 q<2": true, "p>1 q<1": true, "j p>2": true, "q<2": false, "j": false, "j q<1": false, "": false} {
		b := smallStation()
		s := impl.CtlHear(stationWith(b), asked("east", moveOf(4, "a", uses, "u", "v")), 0)
		if len(s.Mind.Parts) != 1 {
			t.Fatalf("%q is not granted: %+v", uses, s)
		}
		checkHeard(t, uses, s, said(impl.CtlStops, "east", 4, 0), 2, impl.CtlStopped, choose(isPumped, 2, 0), func(s *impl.CtlStation) { s.Mind.Parts[0].Stopped = true })
	}
	for _, w := range []impl.ClaimWant{permitOf(4, "p q", ""), permitOf(4, "", "u")} {
		s := impl.CtlHear(stationWith(smallStation()), asked("east", w), 0)
		checkHeard(t, "a permit", s, said(impl.CtlStops, "east", 4, 0), 2, impl.CtlStopped, 0, func(s *impl.CtlStation) { s.Mind.Parts[0].Stopped = true })
	}
}

func TestWhatIsToldToBeOver(t *testing.T) {
	s := stationWith(manyParts(2, 3, 6, 9), 5, 8)
	codes := map[int]int{}
	for _, number := range []int{1, 2, 3, 5, 6, 8, 9, 11, 12, 1000000} {
		for _, moved := range []int{math.MinInt, -1, 0, 1, 10, 11, 15, 16, 1000, 1001, math.MaxInt} {
			for _, done := range []bool{false, true} {
				mind, code := overByDefinition(s.Mind, number, moved, done)
				codes[code]++
				kind := choose(code == 0 || code == 3, impl.CtlGone, 0)
				w := over("east", number, moved, done)
				checkHeard(t, fmt.Sprint("code ", code), s, w, 7, kind, 0, func(s *impl.CtlStation) { s.Mind = mind })
				checkHeard(t, fmt.Sprint("twice, code ", code), impl.CtlHear(s, w, 7), w, 7, kind, 0, asIs)
			}
		}
	}
	for _, code := range []int{0, 2, 3, 12} {
		if codes[code] < 10 {
			t.Errorf("code %d: %d times", code, codes[code])
		}
	}
	// What is told to be over while it goes is in On still.
	checkNotHeard(t, "not stopped", stationWith(manyParts(), 8), over("east", 8, 0, false), 0)
}

func TestAsManyAnswersAsThereCanBe(t *testing.T) {
	if impl.CtlMaxRadio != 60 || impl.CtlMaxMeters != 60 || impl.CtlMaxStations != 4 || impl.CtlMaxCalm != 200 {
		t.Error("the limits are not the document's")
	}
	for _, many := range []int{0, 1, 58, 59, 60, 61, 500} {
		for _, w := range heardKinds() {
			s := stationWith(fewParts(), 3)
			s.Out = slices.Repeat([]impl.CtlWord{said(impl.CtlGone, "east", 1, 0)}, many)
			got := impl.CtlHear(s, w, 4)
			want := hearsByDefinition(s, w, 4)
			if !sameStation(got, want) || len(got.Out) != many+choose(many < 60 && w.Kind != impl.CtlGoes, 1, 0) || sameStation(got, s) {
				t.Errorf("%d words, and %+v: %d words, %+v", many, w, len(got.Out), got)
			}
		}
	}
}

// hearsByDefinition reads the chapter a second time.
func hearsByDefinition(s impl.CtlStation, w impl.CtlWord, meter int) impl.CtlStation {
	after := copied(s)
	if !s.Up || !claimsByDefinition(s.Mind) || w.Number < 1 || w.Number > 1000000 || meter < 0 || meter > 1000 {
		return after
	}
	var part impl.ClaimPart
	for _, p := range s.Mind.Parts {
		if p.Want.Number == w.Number {
			part = copied(p)
		}
	}
	answer := impl.CtlWord{Station: w.Station, Number: w.Number}
	code := 0
	switch w.Kind {
	case 1:
		after.Mind, code = grantByDefinition(s.Mind, w.Want)
		answer.Kind = choose(code == 0 && w.Want.Number == w.Number, 2, 3)
	case 4:
		less := 0
		for less < len(s.On) && s.On[less] < w.Number {
			less++
		}
		if part.Want.Number > 0 && !part.Stopped && (less == len(s.On) || s.On[less] > w.Number) {
			after.On = slices.Concat(s.On[:less], []int{w.Number}, s.On[less:])
		}
	case 5:
		answer.Kind = 6
		isFrom := slices.ContainsFunc(part.Want.Uses, func(u impl.ClaimUse) bool { return u.Role == 1 })
		if isFrom || part.Want.Kind == 2 {
			answer.Moved = choose(len(part.Want.Uses) == 0, 1, meter)
		}
		if after.Mind, code = stopByDefinition(s.Mind, w.Number); code == 3 && s.Mind.Seen < w.Number {
			after.Mind.Seen = w.Number
		}
		after.On = nil
		for _, number := range s.On {
			if number != w.Number {
				after.On = append(after.On, number)
			}
		}
	case 7:
		after.Mind, code = overByDefinition(s.Mind, w.Number, w.Moved, w.Done)
		answer.Kind = choose(code == 0 || code == 3, 8, 0)
	}
	if answer.Kind > 0 && len(s.Out) < 60 {
		after.Out = append(after.Out, answer)
	}
	return after
}

// hearing is all that a station may be told at once.
type hearing struct {
	Station impl.CtlStation
	Word    impl.CtlWord
	Meter   int
}

func checkHearByReading(t *testing.T, what string, h hearing) bool {
	t.Helper()
	want := hearsByDefinition(h.Station, h.Word, h.Meter)
	checkHear(t, what, h.Station, h.Word, h.Meter, want)
	return !sameStation(want, h.Station)
}

// someHearings is what is heard, and what is not.
func someHearings() []hearing {
	var all []hearing
	for _, w := range append(heardKinds(), said(impl.CtlStops, "east", 2, 0), said(impl.CtlStops, "east", 14, 0), said(impl.CtlStops, "east", 6, 0), said(impl.CtlGoes, "east", 9, 0), over("east", 3, 4, false), asked("east", permitOf(9, "tun", "v6"))) {
		all = append(all, hearing{stationWith(fewParts(), 3), w, 4}, hearing{stationWith(manyParts(3, 6), 2, 5, 8), w, 1})
	}
	for i, b := range spoiltClaims() {
		all = append(all, hearing{stationWith(b, 3), heardKinds()[i%4], 2})
	}
	return append(all, hearing{}, hearing{impl.CtlStation{Up: true}, heardKinds()[0], 0})
}

func TestHearingsOfWhichOneThingIsChanged(t *testing.T) {
	heard, not := 0, 0
	for i, from := range someHearings()[:12] {
		eachWithOneChange(from, []string{"", "ale", "keg", "v1", "none", "east"}, func(h hearing) {
			if checkHearByReading(t, "one thing of "+strconv.Itoa(i), h) {
				heard++
			} else {
				not++
			}
		})
	}
	if heard < 1000 || not < 1000 {
		t.Errorf("%d are heard, %d not", heard, not)
	}
}

// checkPromisedOfHearing is promise 28 of one word, heard twice.
func checkPromisedOfHearing(t *testing.T, h hearing) impl.CtlStation {
	t.Helper()
	checkHearByReading(t, "promise 28", h)
	once := impl.CtlHear(h.Station, h.Word, h.Meter)
	twice := impl.CtlHear(once, h.Word, h.Meter)
	checkClaims(t, "behind a word", once.Mind, true)
	if !claimsByDefinition(once.Mind) {
		t.Errorf("not ok: %+v behind %+v", once.Mind, h)
	}
	out := twice.Out
	twice.Out = once.Out
	if !sameStation(once, twice) || len(out) < len(once.Out) || !reflect.DeepEqual(copied(out[:len(once.Out)]), copied(once.Out)) {
		t.Errorf("heard twice, %+v becomes %+v, said is %+v: %+v", once, twice, out, h)
	}
	if h.Word.Kind == impl.CtlStops {
		checkNotDone(t, once, h.Word.Number)
	}
	return once
}

// checkNotDone asks that a number that was stopped opens nothing, and is not on.
func checkNotDone(t *testing.T, s impl.CtlStation, number int) {
	t.Helper()
	if slices.Contains(s.On, number) {
		t.Errorf("%d was stopped, and is on: %+v", number, s)
	}
	for _, p := range s.Mind.Parts {
		if p.Want.Number == number && !p.Stopped {
			t.Errorf("%d was stopped, and is not: %+v", number, s)
		}
	}
	for _, valve := range s.Mind.Valves {
		if impl.ClaimMay(s.Mind, valve) == number {
			t.Errorf("%d was stopped, and %s may be open: %+v", number, valve, s)
		}
	}
}

// wordsOfSmallStation is all that the small station may be told under a number.
func wordsOfSmallStation(number int) []impl.CtlWord {
	words := []impl.CtlWord{said(impl.CtlGoes, "e", number, 0), said(impl.CtlStops, "e", number, 0), over("e", number, 0, true), over("e", number, 2, false)}
	for _, w := range wantsOfSmallStation(number) {
		words = append(words, asked("e", w))
	}
	return words
}

// Promise 28, of all short rows of words.
func TestAllShortRowsOfWordsHeard(t *testing.T) {
	type told struct {
		station impl.CtlStation
		stopped []int
	}
	now, seen := []told{{station: impl.CtlStation{Up: true, Mind: smallStation(), Disk: smallStation()}}}, map[string]bool{}
	for range 6 {
		var next []told
		for _, from := range now {
			for number := 1; number <= 2; number++ {
				for _, w := range wordsOfSmallStation(number) {
					after := told{checkPromisedOfHearing(t, hearing{from.station, w, 2}), from.stopped}
					if w.Kind == impl.CtlStops {
						after.stopped = slices.Compact(slices.Sorted(slices.Values(append(slices.Clone(from.stopped), number))))
					}
					for _, stopped := range after.stopped {
						checkNotDone(t, after.station, stopped)
					}
					after.station.Out = nil
					if key := fmt.Sprint(after); !seen[key] {
						seen[key] = true
						next = append(next, after)
					}
				}
			}
		}
		now = next
	}
	if len(seen) < 100 {
		t.Errorf("%d stations were come to", len(seen))
	}
}

// someHearing draws a word for a station, of a number that it may know.
func someHearing(dice *rand.Rand, s impl.CtlStation) hearing {
	h := hearing{s, said([]int{1, 4, 5, 7}[dice.Intn(4)], "east", 1+dice.Intn(s.Mind.Seen+2), 0), dice.Intn(4)}
	if len(s.Mind.Parts) > 0 && dice.Intn(4) > 0 {
		h.Word.Number = s.Mind.Parts[dice.Intn(len(s.Mind.Parts))].Want.Number
	}
	switch h.Word.Kind {
	case impl.CtlAsks:
		h.Word.Number = s.Mind.Seen + dice.Intn(3)
		h.Word.Want = someClaimWant(dice, choose(dice.Intn(10) == 0, 1+dice.Intn(9), h.Word.Number))
	case impl.CtlOvers:
		h.Word.Moved, h.Word.Done = dice.Intn(4), dice.Intn(2) == 0
	}
	return h
}

// Promise 28, of long rows of words.
func TestLongRowsOfWordsHeard(t *testing.T) {
	dice := rand.New(rand.NewSource(28))
	answers := map[int]int{}
	on, stops := 0, 0
	for range 200 {
		b := someStation(dice)
		if !impl.ClaimBookOk(b) {
			continue
		}
		s := impl.CtlStation{Up: true, Mind: b, Disk: b}
		stopped := map[int]bool{}
		for range 60 {
			h := someHearing(dice, s)
			s = checkPromisedOfHearing(t, h)
			if h.Word.Kind == impl.CtlStops && h.Word.Number >= 1 {
				stopped[h.Word.Number] = true
			}
			for number := range stopped {
				checkNotDone(t, s, number)
			}
			if len(s.Out) > 0 {
				answers[s.Out[0].Kind]++
			}
			on, stops = on+len(s.On), len(stopped)+stops
			s.Out = nil
		}
	}
	for _, kind := range []int{impl.CtlGrants, impl.CtlDenies, impl.CtlStopped, impl.CtlGone} {
		if answers[kind] < 100 {
			t.Errorf("%v were answered", answers)
		}
	}
	if on < 500 || stops < 500 {
		t.Errorf("%d were on, %d stopped", on, stops)
	}
}

func TestHearingsLeaveTheirArguments(t *testing.T) {
	for _, from := range someHearings() {
		h := withRoom(from)
		was := withWhatIsBehind(h)
		checkHear(t, "without room", from.Station, from.Word, from.Meter, impl.CtlHear(h.Station, h.Word, h.Meter))
		if !reflect.DeepEqual(withWhatIsBehind(h), was) {
			t.Errorf("the arguments became %+v", withWhatIsBehind(h))
		}
	}
}

func TestStationsBehindWordsAreNewMemory(t *testing.T) {
	for i, from := range someHearings() {
		h := withRoom(from)
		after := impl.CtlHear(h.Station, h.Word, h.Meter)
		checkOwnMemory(t, strconv.Itoa(i), after, h)
		checkOwnLists(t, strconv.Itoa(i), after, h)
		spoilTexts(after.Mind.Valves)
		spoilTexts(after.Disk.Valves)
		checkHearByReading(t, "behind an answer that was written into", h)
	}
}

func TestHearingsOfVeryLongLists(t *testing.T) {
	long := 20000
	s := stationWith(fewParts())
	for i := range long {
		s.On = append(s.On, 2*i)
	}
	checkHeard(t, "long on", s, said(impl.CtlGoes, "east", 5, 0), 0, 0, 0, func(s *impl.CtlStation) { s.On = slices.Insert(s.On, 3, 5) })
	s.Out = slices.Repeat(s.Out, long)
	checkHeard(t, "long out", s, said(impl.CtlStops, "east", 14, 0), 0, 0, 0, func(s *impl.CtlStation) {
		s.Mind.Seen, s.On = 14, slices.Delete(s.On, 7, 8)
	})
	w := asked("east", permitOf(12, "", ""))
	w.Want.Shuts = numbered("v", long)
	checkHeard(t, "a long want", stationWith(fewParts()), w, 0, impl.CtlDenies, 0, asIs)
	checkHeard(t, "a long station", stationWith(fewParts()), said(impl.CtlStops, strings.Repeat("east", 1<<18), 3, 0), 0, impl.CtlStopped, 0, func(s *impl.CtlStation) { s.Mind.Parts[0].Stopped = true })
	b := fewParts()
	b.Valves = numbered("v", long)
	checkNotHeard(t, "a long book", stationWith(b), said(impl.CtlStops, "east", 3, 0), 0)
}

// What one call was given must not be seen in the next one, nor in one beside it.
func TestHearingsKeepNothing(t *testing.T) {
	all := someHearings()
	var callers sync.WaitGroup
	for range 8 {
		callers.Go(func() {
			for i := range 2 * len(all) {
				checkHearByReading(t, "one beside others", all[i%len(all)])
			}
		})
	}
	callers.Wait()
}
