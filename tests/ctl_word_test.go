package tests

import (
	"math"
	"math/rand"
	"reflect"
	"strconv"
	"strings"
	"sync"
	"testing"

	"loop.example/malthouse/impl"
)

// wordPlant has the stations east and west, and one of valves alone.
func wordPlant() impl.Plant {
	return written("stuff ale", "vessel keg 9 east", "vessel tun 9 west", "valve v keg tun north")
}

// ofKind is a word with no more than its kind needs.
func ofKind(kind int) impl.CtlWord {
	w := impl.CtlWord{Kind: kind, Number: 7}
	if kind >= 1 && kind <= 8 {
		w.Station = "east"
	}
	if kind == impl.CtlAsks {
		w.Want = cleanOf(7, "keg", "v")
	}
	return w
}

// kindsOfWords is each kind by its number, with what the table says that it has.
func kindsOfWords() map[int]string {
	return map[int]string{1: "want", 2: "", 3: "", 4: "", 5: "", 6: "moved", 7: "moved done", 8: "", 9: "", 10: ""}
}

// has says whether a kind has a thing, by the table.
func has(kind int, what string) bool {
	return strings.Contains(kindsOfWords()[kind], what)
}

func checkWord(t *testing.T, what string, p impl.Plant, w impl.CtlWord, want bool) {
	t.Helper()
	if got := impl.CtlWordOk(p, w); got != want {
		t.Errorf("%s: CtlWordOk = %v; want %v: %+v in %+v", what, got, want, w, p)
	}
}

func TestKindsOfWords(t *testing.T) {
	constants := []int{impl.CtlAsks, impl.CtlGrants, impl.CtlDenies, impl.CtlGoes, impl.CtlStops, impl.CtlStopped, impl.CtlOvers, impl.CtlGone, impl.CtlEnter, impl.CtlSigned}
	for i, kind := range constants {
		if kind != i+1 {
			t.Errorf("constant %d is %d", i+1, kind)
		}
		checkWord(t, "just ok", wordPlant(), ofKind(kind), true)
	}
	for _, kind := range []int{math.MinInt, -2, -1, 0, 11, 12, 257, 1 + 1<<32, math.MaxInt} {
		for _, w := range []impl.CtlWord{ofKind(1), ofKind(2), ofKind(7), ofKind(9)} {
			w.Kind = kind
			checkWord(t, "another kind", wordPlant(), w, false)
			w.Station, w.Want = "", impl.ClaimWant{}
			checkWord(t, "another kind without a station", wordPlant(), w, false)
		}
	}
	checkWord(t, "nothing", wordPlant(), impl.CtlWord{}, false)
	checkWord(t, "nothing, in nothing", impl.Plant{}, impl.CtlWord{}, false)
}

// A word of another kind may be ok, if it has what that kind asks for.
func TestWordsOfEachOtherKind(t *testing.T) {
	for kind := range kindsOfWords() {
		for other := -1; other <= 12; other++ {
			w := ofKind(kind)
			w.Kind = other
			toStation := kind >= 2 && kind <= 8 && other >= 2 && other <= 8
			toWorker := kind >= 9 && (other == 9 || other == 10)
			checkWord(t, strconv.Itoa(kind), wordPlant(), w, kind == other || toStation || toWorker)
		}
	}
}

func TestNumbersOfWords(t *testing.T) {
	for number, want := range map[int]bool{math.MinInt: false, -7: false, -1: false, 0: false, 1: true, 2: true, 999999: true, 1000000: true, impl.ClaimMaxNumber + 1: false, 7 + 1<<32: false, math.MaxInt: false} {
		for kind := range kindsOfWords() {
			w := ofKind(kind)
			w.Number = number
			if kind == impl.CtlAsks {
				w.Want.Number = number
			}
			checkWord(t, "number "+strconv.Itoa(number), wordPlant(), w, want)
		}
	}
}

func TestStationsOfWords(t *testing.T) {
	for kind := range kindsOfWords() {
		w := ofKind(kind)
		for _, station := range []string{"east", "west", "north"} {
			w.Station = station
			checkWord(t, station, wordPlant(), w, kind <= 8)
			checkWord(t, station+" of no plant", impl.Plant{}, w, false)
			checkWord(t, station+" of another plant", written("joint j far"), w, false)
		}
		for _, station := range append(noNames(), "south", "keg", "tun", "v", "ale", "eas", "easts", "East", "0") {
			w.Station = station
			checkWord(t, "another station", wordPlant(), w, kind >= 9 && station == "")
		}
	}
	// Who works needs no station, so that a plant without any has words for them.
	for kind := range kindsOfWords() {
		w := ofKind(kind)
		w.Station = ""
		checkWord(t, "no station in an empty plant", impl.Plant{}, w, kind >= 9)
	}
}

func TestMovedOfWords(t *testing.T) {
	for kind := range kindsOfWords() {
		for _, moved := range []int{math.MinInt, -1000, -1, 0, 1, 2, 999, 1000, impl.ClaimMaxCap, impl.ClaimMaxCap + 1, 1 << 32, math.MaxInt} {
			w := ofKind(kind)
			w.Moved = moved
			within := moved >= 0 && moved <= 1000
			checkWord(t, "moved", wordPlant(), w, moved == 0 || within && has(kind, "moved"))
		}
	}
}

func TestDoneOfWords(t *testing.T) {
	for kind := range kindsOfWords() {
		for _, moved := range []int{-1, 0, 1, 1000, 1001} {
			w := ofKind(kind)
			w.Done, w.Moved = true, moved
			checkWord(t, "done", wordPlant(), w, kind == impl.CtlOvers && moved >= 0 && moved <= 1000)
		}
	}
}

func TestWantsOfWords(t *testing.T) {
	p := wordPlant()
	for what, want := range someWants() {
		for kind := range kindsOfWords() {
			w := ofKind(kind)
			w.Want, w.Number = want, want.Number
			checkWord(t, what, p, w, kind == impl.CtlAsks)
			for _, number := range []int{0, want.Number - 1, want.Number + 1, 5} {
				w.Number = number
				checkWord(t, what+" under another number", p, w, false)
			}
		}
	}
	for i, want := range append(spoiltWants(), impl.ClaimWant{}) {
		w := ofKind(impl.CtlAsks)
		w.Want, w.Number = want, want.Number
		checkWord(t, "spoilt "+strconv.Itoa(i), p, w, false)
		w.Number = 7
		checkWord(t, "spoilt "+strconv.Itoa(i), p, w, false)
	}
}

// All but nothing is some want, be it ok or not.
func TestWantsOfWordsThatHaveNone(t *testing.T) {
	p := wordPlant()
	for kind := range kindsOfWords() {
		if kind == impl.CtlAsks {
			continue
		}
		for what, want := range map[string]impl.ClaimWant{
			"a number": {Number: 7}, "another number": {Number: -1}, "a kind": {Kind: 1}, "another kind": {Kind: -1},
			"a stuff": {Stuffs: []string{"ale"}}, "an empty stuff": {Stuffs: []string{""}},
			"a place": {Uses: places("keg")}, "an empty place": {Uses: make([]impl.ClaimUse, 1)},
			"an open valve": {Opens: []string{"v"}}, "an empty open valve": {Opens: []string{""}},
			"a shut valve": {Shuts: []string{"v"}}, "an empty shut valve": {Shuts: []string{""}},
		} {
			w := ofKind(kind)
			w.Want = want
			checkWord(t, what, p, w, false)
		}
		w := ofKind(kind)
		w.Want = impl.ClaimWant{Stuffs: []string{}, Uses: []impl.ClaimUse{}, Opens: []string{}, Shuts: []string{}}
		checkWord(t, "empty lists", p, w, true)
	}
}

// A want need not be one that the plant, or the station, knows.
func TestWantsOfWordsNeedNotBeKnown(t *testing.T) {
	w := ofKind(impl.CtlAsks)
	for what, want := range map[string]impl.ClaimWant{
		"another station's":      cleanOf(7, "tun", ""),
		"nobody's place":         cleanOf(7, "none", ""),
		"nobody's valve":         permitOf(7, "", "none"),
		"a stuff that is none":   moveOf(7, "none", "keg>1", "", ""),
		"more than there can be": moveOf(7, "ale", "keg<1000", "", ""),
	} {
		w.Want = want
		checkWord(t, what, wordPlant(), w, true)
	}
}

func TestWordsInPlantsThatAreNotValid(t *testing.T) {
	for _, p := range notValid() {
		for kind := range kindsOfWords() {
			w := ofKind(kind)
			checkWord(t, "not valid", p, w, false)
			w.Station = choose(kind <= 8, "west", "")
			checkWord(t, "not valid", p, w, false)
		}
	}
}

// wordByDefinition reads the chapter a second time.
func wordByDefinition(p impl.Plant, w impl.CtlWord) bool {
	_, isKind := kindsOfWords()[w.Kind]
	isStations := false
	for _, x := range p.Places {
		isStations = isStations || x.Station == w.Station
	}
	for _, v := range p.Valves {
		isStations = isStations || v.Station == w.Station
	}
	if w.Kind >= 9 {
		isStations = w.Station == ""
	}
	wantIsNothing := reflect.DeepEqual(copied(w.Want), impl.ClaimWant{})
	wantOk := wantByDefinition(w.Want) && w.Want.Number == w.Number
	mostMoved := choose(has(w.Kind, "moved"), 1000, 0)
	return impl.PlantValid(p) && isKind && isStations && w.Number >= 1 && w.Number <= 1000000 && w.Moved >= 0 && w.Moved <= mostMoved &&
		(!w.Done || has(w.Kind, "done")) && choose(has(w.Kind, "want"), wantOk, wantIsNothing)
}

// saidIn is a word, and the plant in which it is said.
type saidIn struct {
	Plant impl.Plant
	Word  impl.CtlWord
}

// someWords is words of each kind with all that they can have.
func someWords() []saidIn {
	var all []saidIn
	for kind := range 12 {
		w := ofKind(kind)
		w.Moved = choose(has(kind, "moved"), 5, 0)
		w.Done = has(kind, "done")
		if has(kind, "want") {
			w.Want = moveOf(7, "ale malt", "keg<5 tun>5", "v", "u w")
		}
		all = append(all, saidIn{wordPlant(), w}, saidIn{wordPlant(), ofKind(kind)})
	}
	return all
}

func TestWordsOfWhichOneThingIsChanged(t *testing.T) {
	ok, not := map[int]int{}, map[int]int{}
	for _, from := range someWords() {
		eachWithOneChange(from, textsOfAll(from), func(s saidIn) {
			want := wordByDefinition(s.Plant, s.Word)
			checkWord(t, "one thing", s.Plant, s.Word, want)
			choose(want, ok, not)[s.Word.Kind]++
		})
	}
	for kind := range kindsOfWords() {
		if ok[kind] < 10 || not[kind] < 10 {
			t.Errorf("kind %d: %d are ok, %d not", kind, ok[kind], not[kind])
		}
	}
}

func TestWordsOfWhichTwoThingsAreChanged(t *testing.T) {
	p := wordPlant()
	texts := []string{"", "east", "north", "none", "v"}
	for _, from := range someWords() {
		eachWithOneChange(from.Word, texts, func(w impl.CtlWord) {
			eachWithOneChange(w, texts, func(w impl.CtlWord) {
				checkWord(t, "two things", p, w, wordByDefinition(p, w))
			})
		})
	}
}

func TestAllShortWords(t *testing.T) {
	p := wordPlant()
	wants := []impl.ClaimWant{{}, cleanOf(1, "keg", ""), cleanOf(2, "keg", ""), moveOf(1, "ale", "keg>1", "", ""), {Number: 1}, {Kind: 1}, permitOf(0, "keg", "")}
	for kind := -1; kind <= 12; kind++ {
		for _, station := range []string{"", "east", "north", "none"} {
			for number := range 3 {
				for moved := -1; moved <= 1; moved++ {
					for i := range 2 * len(wants) {
						w := impl.CtlWord{Kind: kind, Station: station, Number: number, Want: wants[i/2], Moved: moved, Done: i%2 == 0}
						checkWord(t, "short", p, w, wordByDefinition(p, w))
					}
				}
			}
		}
	}
}

// What is asked of stations, where it is ok, can be said.
func TestAsksCanBeSaid(t *testing.T) {
	dice := rand.New(rand.NewSource(32))
	said := 0
	for range 200 {
		p := somePlant(dice)
		for _, r := range allRoutes(p)[:min(len(allRoutes(p)), 5)] {
			for _, a := range impl.CtlRouteAsks(p, 3, r, []string{"ale"}, 2) {
				w := impl.CtlWord{Kind: impl.CtlAsks, Station: a.Station, Number: 3, Want: a.Want}
				ok := impl.ClaimWantOk(a.Want)
				checkWord(t, "asked", p, w, ok)
				w.Number = 4
				checkWord(t, "asked under another number", p, w, false)
				if ok {
					said++
				}
			}
		}
	}
	if said < 500 {
		t.Errorf("%d were said", said)
	}
}

func TestWordsAreNotWrittenInto(t *testing.T) {
	for _, from := range someWords() {
		s := withRoom(from)
		was := withWhatIsBehind(s)
		first := impl.CtlWordOk(s.Plant, s.Word)
		checkWord(t, "a second time", s.Plant, s.Word, first)
		checkWord(t, "without room", from.Plant, from.Word, first)
		if !reflect.DeepEqual(withWhatIsBehind(s), was) {
			t.Errorf("the arguments became %+v", withWhatIsBehind(s))
		}
	}
}

func TestWordsOfVeryLongLists(t *testing.T) {
	names := numbered("s", 20000)
	for kind := range kindsOfWords() {
		w := ofKind(kind)
		w.Want.Stuffs = names
		checkWord(t, "long stuffs", wordPlant(), w, false)
		w = ofKind(kind)
		w.Want.Shuts = names
		checkWord(t, "long valves", wordPlant(), w, false)
		w = ofKind(kind)
		w.Station = strings.Repeat("east", 1<<18)
		checkWord(t, "a long station", wordPlant(), w, false)
		checkWord(t, "a long plant", impl.Plant{Stuffs: names}, ofKind(kind), false)
	}
}

// What one call was given must not be seen in the next one, nor in one beside it.
func TestWordsKeepNothing(t *testing.T) {
	all := someWords()
	other := written("joint j far")
	var callers sync.WaitGroup
	for range 8 {
		callers.Go(func() {
			for i := range 100 {
				s := all[i%len(all)]
				checkWord(t, "one beside others", s.Plant, s.Word, wordByDefinition(s.Plant, s.Word))
				checkWord(t, "in another plant", other, s.Word, wordByDefinition(other, s.Word))
			}
		})
	}
	callers.Wait()
}
