package tests

import (
	"reflect"
	"runtime"
	"slices"
	"strconv"
	"strings"
	"sync"
	"testing"
	"time"

	"loop.example/malthouse/impl"
)

// index is one from its open valves and its marks, as in "v1 v2" and "a:a j:a".
func index(open, marks string) impl.PlantIndex {
	x := impl.PlantIndex{Open: strings.Fields(open)}
	for _, word := range strings.Fields(marks) {
		place, head, _ := strings.Cut(word, ":")
		x.Marks = append(x.Marks, impl.PlantMark{Place: place, Head: head})
	}
	return x
}

func sameIndex(a, b impl.PlantIndex) bool {
	return slices.Equal(a.Open, b.Open) && slices.Equal(a.Marks, b.Marks)
}

func checkIndex(t *testing.T, what string, got, want impl.PlantIndex) {
	t.Helper()
	if !sameIndex(got, want) {
		t.Errorf("%s = %q; want %q", what, got, want)
	}
}

func checkIndexOf(t *testing.T, p impl.Plant, open []string, want impl.PlantIndex) {
	t.Helper()
	if got := impl.PlantIndexOf(p, open); !sameIndex(got, want) {
		t.Errorf("PlantIndexOf with %.200q = %q; want %q", open, got, want)
	}
}

func checkTurn(t *testing.T, p impl.Plant, x impl.PlantIndex, valve string, open bool, want impl.PlantIndex) {
	t.Helper()
	if got := impl.PlantTurn(p, x, valve, open); !sameIndex(got, want) {
		t.Errorf("PlantTurn of %.200q and %.20q, %v = %q; want %q", x, valve, open, got, want)
	}
}

// indexByDefinition reads the chapter by all pairs of places.
func indexByDefinition(p impl.Plant, open []string) impl.PlantIndex {
	var x impl.PlantIndex
	for _, v := range p.Valves {
		if slices.Contains(open, v.Name) {
			x.Open = append(x.Open, v.Name)
		}
	}
	joined := joinedByDefinition(p, open)
	for _, place := range p.Places {
		first := slices.IndexFunc(p.Places, func(y impl.PlantPlace) bool { return joined[[2]string{place.Name, y.Name}] })
		x.Marks = append(x.Marks, impl.PlantMark{Place: place.Name, Head: p.Places[first].Name})
	}
	return x
}

// turned is what is open behind a turn, by the words of the chapter.
func turned(open []string, valve string, opened bool) []string {
	rest := slices.DeleteFunc(slices.Clone(open), func(name string) bool { return name == valve })
	if opened {
		rest = append(rest, valve)
	}
	return rest
}

func TestIndexOfOrdinaryPlants(t *testing.T) {
	p := smallPlant()
	checkIndexOf(t, p, nil, index("", "j:j keg:keg tun:tun"))
	checkIndexOf(t, p, []string{"a"}, index("a", "j:j keg:j tun:tun"))
	checkIndexOf(t, p, []string{"b"}, index("b", "j:j keg:keg tun:j"))
	checkIndexOf(t, p, []string{"c"}, index("c", "j:j keg:keg tun:keg"))
	checkIndexOf(t, p, []string{"a", "c"}, index("a c", "j:j keg:j tun:j"))
	checkIndexOf(t, p, []string{"b", "c"}, index("b c", "j:j keg:j tun:j"))
	checkIndexOf(t, p, []string{"a", "b", "c"}, index("a b c", "j:j keg:j tun:j"))
	p = pairedPlant()
	checkIndexOf(t, p, []string{"v2", "v6"}, index("v2 v6", "a:a b:b j:j k:b m:a"))
	checkIndexOf(t, p, []string{"v0", "v3"}, index("v0 v3", "a:a b:b j:j k:j m:j"))
	checkIndexOf(t, p, []string{"v0", "v8", "w0"}, index("v0 v8 w0", "a:a b:b j:b k:b m:b"))
}

func TestIndexOfNamesAsTheyCome(t *testing.T) {
	p := smallPlant()
	for _, open := range [][]string{{}, {""}, noNames(), {"keg", "tun", "j"}, {"west", "ale"}} {
		checkIndexOf(t, p, open, index("", "j:j keg:keg tun:tun"))
	}
	for _, open := range [][]string{{"b", "a"}, {"a", "b", "a"}, {"b", "b", "a", "a"}, {"", "b", "none", "a", "", "b"}, append(noNames(), "b", "a")} {
		checkIndexOf(t, p, open, index("a b", "j:j keg:j tun:j"))
	}
	checkIndexOf(t, p, slices.Repeat([]string{"none", "c", ""}, 100000), index("c", "j:j keg:keg tun:keg"))
	// A valve may be called as a place is.
	p = someValid()["one name for all"]
	checkIndexOf(t, p, []string{"y"}, index("", "x:x y:y"))
	checkIndexOf(t, p, []string{"x"}, index("x", "x:x y:x"))
}

func TestIndexOfPlantsWithoutPlacesOrValves(t *testing.T) {
	for _, what := range []string{"empty", "empty lists", "stuffs alone", "no places"} {
		p := someValid()[what]
		for _, open := range [][]string{nil, {""}, {"a", "b"}} {
			checkIndexOf(t, p, open, impl.PlantIndex{})
			checkTurn(t, p, impl.PlantIndex{Open: open}, "a", true, impl.PlantIndex{})
			checkTurn(t, p, index("a", "j:j"), "a", false, impl.PlantIndex{})
		}
	}
	p := someValid()["places alone"]
	checkIndexOf(t, p, []string{"a"}, index("", "j:j keg:keg tun:tun"))
	checkTurn(t, p, index("a", "j:j keg:j tun:tun"), "b", true, index("", "j:j keg:keg tun:tun"))
}

func TestIndexOfOneLongLine(t *testing.T) {
	p := fullPlant()
	valves := namesOfValves(p)
	want := indexByDefinition(p, nil)
	checkIndexOf(t, p, nil, want)
	want.Open = valves
	for i := range want.Marks {
		want.Marks[i].Head = "p10"
	}
	checkIndexOf(t, p, valves, want)
	// v13 and v26 lie between the same two places; without both the line is in two.
	open := slices.DeleteFunc(slices.Clone(valves), func(name string) bool { return name == "v13" })
	want.Open = open
	checkIndexOf(t, p, open, want)
	open = slices.DeleteFunc(slices.Clone(open), func(name string) bool { return name == "v26" })
	want.Open = open
	for i := range want.Marks[4:] {
		want.Marks[4+i].Head = "p14"
	}
	checkIndexOf(t, p, open, want)
}

func TestIndexOfAllOpenSets(t *testing.T) {
	p := pairedPlant()
	for bits := range 1 << len(p.Valves) {
		open := pick(namesOfValves(p), bits)
		want := indexByDefinition(p, open)
		if bits%3 == 0 {
			slices.Reverse(open)
		}
		if bits%5 == 0 {
			open = append([]string{"none", ""}, append(open, open...)...)
		}
		checkIndexOf(t, p, open, want)
	}
}

func TestTurnsOfValves(t *testing.T) {
	p := smallPlant()
	none, a, ab := index("", "j:j keg:keg tun:tun"), index("a", "j:j keg:j tun:tun"), index("a b", "j:j keg:j tun:j")
	checkTurn(t, p, none, "a", true, a)
	checkTurn(t, p, a, "b", true, ab)
	checkTurn(t, p, ab, "b", false, a)
	checkTurn(t, p, ab, "a", false, index("b", "j:j keg:keg tun:j"))
	checkTurn(t, p, a, "a", false, none)
	// What is joined by another way too stays joined.
	checkTurn(t, p, index("a b c", "j:j keg:j tun:j"), "c", false, ab)
	checkTurn(t, p, index("a b c", "j:j keg:j tun:j"), "a", false, index("b c", "j:j keg:j tun:j"))
	for _, x := range []impl.PlantIndex{none, a, ab} {
		for _, valve := range x.Open {
			checkTurn(t, p, x, valve, true, x)
		}
		for _, valve := range namesOfValves(p) {
			if !slices.Contains(x.Open, valve) {
				checkTurn(t, p, x, valve, false, x)
			}
		}
		for _, text := range append(noNames(), "j", "keg", "tun", "west") {
			checkTurn(t, p, x, text, true, x)
			checkTurn(t, p, x, text, false, x)
		}
	}
}

func TestTurnsOfOpenAsItComes(t *testing.T) {
	p := smallPlant()
	none, c, abc := index("", "j:j keg:keg tun:tun"), index("c", "j:j keg:keg tun:keg"), index("a b c", "j:j keg:j tun:j")
	x := impl.PlantIndex{Open: []string{"c", "none", "a", "c", "", "a"}}
	checkTurn(t, p, x, "b", true, abc)
	checkTurn(t, p, x, "a", false, c)
	checkTurn(t, p, x, "c", false, index("a", "j:j keg:j tun:tun"))
	checkTurn(t, p, x, "a", true, index("a c", "j:j keg:j tun:j"))
	for _, text := range []string{"none", "", "keg"} {
		checkTurn(t, p, x, text, false, index("a c", "j:j keg:j tun:j"))
		checkTurn(t, p, x, text, true, index("a c", "j:j keg:j tun:j"))
	}
	checkTurn(t, p, impl.PlantIndex{Open: noNames()}, "none", true, none)
	checkTurn(t, p, impl.PlantIndex{Open: noNames()}, "c", true, c)
	checkTurn(t, p, impl.PlantIndex{Open: slices.Repeat([]string{"b", "none", "c"}, 100000)}, "b", false, c)
	checkTurn(t, p, impl.PlantIndex{}, "c", true, c)
	checkTurn(t, p, impl.PlantIndex{}, "c", false, none)
}

func TestTurnsOfMarksThatDoNotFit(t *testing.T) {
	p := smallPlant()
	for _, marks := range [][]impl.PlantMark{
		nil,
		index("", "j:j keg:keg tun:tun").Marks,
		index("", "j:j keg:j tun:j").Marks,
		index("", "tun:tun keg:tun j:tun").Marks,
		index("", "j:none keg:none tun:none").Marks,
		index("", "j:j j:keg keg:j none:tun :").Marks,
		index("", "keg:keg").Marks,
		make([]impl.PlantMark, 100000),
	} {
		checkTurn(t, p, impl.PlantIndex{Open: []string{"a"}, Marks: marks}, "b", true, index("a b", "j:j keg:j tun:j"))
		checkTurn(t, p, impl.PlantIndex{Open: []string{"a"}, Marks: marks}, "a", true, index("a", "j:j keg:j tun:tun"))
		checkTurn(t, p, impl.PlantIndex{Open: []string{"c", "a"}, Marks: marks}, "a", false, index("c", "j:j keg:keg tun:keg"))
		checkTurn(t, p, impl.PlantIndex{Open: []string{"c"}, Marks: marks}, "a", false, index("c", "j:j keg:keg tun:keg"))
		checkTurn(t, p, impl.PlantIndex{Marks: marks}, "none", true, index("", "j:j keg:keg tun:tun"))
	}
}

func TestIndexOfPlantsThatAreNotValid(t *testing.T) {
	for _, p := range notValid() {
		for _, open := range [][]string{nil, {"a", "b", "c"}, {"v10"}, {""}} {
			checkIndexOf(t, p, open, impl.PlantIndex{})
			x := impl.PlantIndex{Open: open, Marks: index("", "j:j keg:j tun:tun").Marks}
			for _, valve := range []string{"a", "c", "v11", "none", ""} {
				checkTurn(t, p, x, valve, true, impl.PlantIndex{})
				checkTurn(t, p, x, valve, false, impl.PlantIndex{})
			}
		}
	}
}

// Promise 5.
func TestTurnsOfAllOpenSets(t *testing.T) {
	p := pairedPlant()
	valves := namesOfValves(p)
	var all []impl.PlantIndex
	for bits := range 1 << len(valves) {
		all = append(all, indexByDefinition(p, pick(valves, bits)))
	}
	for bits, x := range all {
		for i, valve := range valves {
			checkTurn(t, p, x, valve, true, all[bits|1<<i])
			checkTurn(t, p, x, valve, false, all[bits&^(1<<i)])
		}
		checkTurn(t, p, x, "none", bits%2 == 0, x)
	}
}

// Promise 5.
func TestAllShortRowsOfTurns(t *testing.T) {
	p := smallPlant()
	valves := append(namesOfValves(p), "none")
	known := map[string]impl.PlantIndex{}
	var goOn func(x impl.PlantIndex, open []string, more int)
	goOn = func(x impl.PlantIndex, open []string, more int) {
		key := strings.Join(slices.Sorted(slices.Values(open)), " ")
		if _, ok := known[key]; !ok {
			known[key] = indexByDefinition(p, open)
			checkIndexOf(t, p, open, known[key])
		}
		checkIndex(t, "the index behind turns", x, known[key])
		if more == 0 || t.Failed() {
			return
		}
		for _, valve := range valves {
			for _, opened := range []bool{true, false} {
				goOn(impl.PlantTurn(p, x, valve, opened), turned(open, valve, opened), more-1)
			}
		}
	}
	goOn(impl.PlantIndexOf(p, nil), nil, 5)
}

// Promise 5.
func TestLongRowsOfTurns(t *testing.T) {
	for what, p := range map[string]impl.Plant{"full": fullPlant(), "paired": pairedPlant(), "mesh": mesh(), "chain": chain(), "no places": someValid()["no places"]} {
		names := append(namesOfValves(p), "none", "")
		x, open := impl.PlantIndexOf(p, nil), []string(nil)
		seed := uint32(1)
		for step := range 600 {
			seed = seed*1664525 + 1013904223
			valve := names[int(seed>>16)%len(names)]
			// More is opened than shut for a while, and then the other way round.
			opened := (seed>>8)%5 < 3 == (step/100%2 == 0)
			x, open = impl.PlantTurn(p, x, valve, opened), turned(open, valve, opened)
			checkIndex(t, what+" behind turn "+strconv.Itoa(step), x, indexByDefinition(p, open))
			checkIndex(t, what+" behind turn "+strconv.Itoa(step), x, impl.PlantIndexOf(p, open))
		}
	}
}

func checkJoined(t *testing.T, x impl.PlantIndex, a, b string, want bool) {
	t.Helper()
	if got := impl.PlantJoined(x, a, b); got != want {
		t.Errorf("PlantJoined of %.20q and %.20q by %.200q = %v; want %v", a, b, x, got, want)
	}
}

func TestJoinedByIndexesThatNoCallMade(t *testing.T) {
	x := index("none v1 v1", "k:z a:q b:z a:z c:q d:c d:q :q e:")
	for _, c := range []struct {
		a, b string
		want bool
	}{
		{"a", "c", true}, {"k", "b", true}, {"a", "b", false}, {"a", "k", false}, {"b", "c", false},
		{"a", "a", true}, {"e", "e", true}, {"k", "k", true},
		// Of two marks of a place the first one counts.
		{"d", "a", false}, {"d", "c", false}, {"d", "d", true},
		// The empty text is a place as any, and a Head as any.
		{"", "a", true}, {"", "", true}, {"e", "a", false}, {"", "e", false},
		// A Head is no place by being a Head.
		{"z", "k", false}, {"z", "z", false}, {"q", "q", false}, {"none", "none", false}, {"v1", "v1", false}, {"a", "none", false},
	} {
		checkJoined(t, x, c.a, c.b, c.want)
		checkJoined(t, x, c.b, c.a, c.want)
	}
	two := index("", "e: f: g:e")
	checkJoined(t, two, "e", "f", true)
	checkJoined(t, two, "e", "g", false)
	checkJoined(t, two, "", "", false)
	// A place without a mark has not even an empty Head.
	for _, text := range []string{"none", "", "h"} {
		checkJoined(t, two, "e", text, false)
		checkJoined(t, two, text, "f", false)
	}
	for _, text := range append(noNames(), "a", "j") {
		checkJoined(t, impl.PlantIndex{}, text, text, false)
		checkJoined(t, impl.PlantIndex{Open: []string{text}}, text, text, false)
		checkJoined(t, index("", "m:m"), "m", text, false)
		checkJoined(t, index("", "m:m"), text, "m", false)
	}
	long := impl.PlantIndex{Marks: append(make([]impl.PlantMark, 100000), impl.PlantMark{Place: "a"}, impl.PlantMark{Place: "b", Head: "b"})}
	checkJoined(t, long, "a", "", true)
	checkJoined(t, long, "a", "b", false)
}

// Promise 5.
func TestJoinedIsWhatGroupsTell(t *testing.T) {
	for _, p := range []impl.Plant{pairedPlant(), fullPlant(), smallPlant(), mesh(), {}} {
		texts := append(namesOfPlaces(p), "none", "", "v1")
		for bits := range 1 << min(len(p.Valves), 9) {
			open := pick(namesOfValves(p), bits<<(bits%10))
			x, groups := impl.PlantIndexOf(p, open), impl.PlantGroups(p, open)
			for _, a := range texts {
				for _, b := range texts {
					together := slices.ContainsFunc(groups, func(g impl.PlantSet) bool {
						return slices.Contains(g.Places, a) && slices.Contains(g.Places, b)
					})
					checkJoined(t, x, a, b, together)
				}
			}
		}
	}
}

func TestIndexesAreNewMemory(t *testing.T) {
	p := pairedPlant()
	open := []string{"v6", "v2", "w0"}
	valve := strings.Clone("v8")
	x := impl.PlantIndexOf(p, open)
	opened, shut, same := impl.PlantTurn(p, x, valve, true), impl.PlantTurn(p, x, x.Open[0], false), impl.PlantTurn(p, x, valve, false)
	checkOwnMemory(t, "PlantIndexOf", x, p, open)
	for what, y := range map[string]impl.PlantIndex{"opened": opened, "shut": shut, "as it was": same} {
		checkOwnMemory(t, "PlantTurn, "+what, y, p, x, valve)
		spoilTexts(y.Open)
		for i := range y.Marks[:cap(y.Marks)] {
			y.Marks[:cap(y.Marks)][i] = impl.PlantMark{Place: "spoilt", Head: "spoilt"}
		}
	}
	checkIndex(t, "the index that was turned", x, index("v2 v6 w0", "a:a b:b j:b k:b m:a"))
	spoilTexts(x.Open)
	clear(x.Marks[:cap(x.Marks)])
	if !samePlant(p, pairedPlant()) || !slices.Equal(open, []string{"v6", "v2", "w0"}) {
		t.Errorf("the arguments became %v, %q", p, open)
	}
	checkIndexOf(t, p, open, index("v2 v6 w0", "a:a b:b j:b k:b m:a"))
}

func TestIndexesLeaveTheirArguments(t *testing.T) {
	for _, from := range append(spoilt(), smallPlant(), fullPlant(), pairedPlant()) {
		p := roomyPlant(from)
		names := append(namesOfValves(p), "none", "a", "")
		slices.Reverse(names)
		open := roomy(names, "behind")
		x := impl.PlantIndex{Open: roomy(names, "behind"), Marks: roomy(index("", "j:j tun:j keg:none").Marks, impl.PlantMark{Place: "behind"})}
		wantPlant, wantOpen := cloned(toTheEnd(p)), slices.Clone(open[:cap(open)])
		wantX := impl.PlantIndex{Open: slices.Clone(x.Open[:cap(x.Open)]), Marks: slices.Clone(x.Marks[:cap(x.Marks)])}
		for _, valve := range names {
			impl.PlantIndexOf(p, open)
			impl.PlantTurn(p, x, valve, true)
			impl.PlantTurn(p, x, valve, false)
			impl.PlantJoined(x, "j", "tun")
			impl.PlantJoined(x, "behind", valve)
		}
		if !reflect.DeepEqual(toTheEnd(p), wantPlant) || !slices.Equal(open[:cap(open)], wantOpen) {
			t.Errorf("the arguments became %+v, %q", toTheEnd(p), open[:cap(open)])
		}
		if got := (impl.PlantIndex{Open: x.Open[:cap(x.Open)], Marks: x.Marks[:cap(x.Marks)]}); !sameIndex(got, wantX) {
			t.Errorf("the index became %q; it was %q", got, wantX)
		}
	}
}

// What one call was given must not be seen in the next one.
func TestIndexesKeepNothing(t *testing.T) {
	p, q := pairedPlant(), smallPlant()
	wrong := smallPlant()
	wrong.Valves[2].B = "none"
	for range 3 {
		checkIndexOf(t, p, []string{"v2", "v6"}, index("v2 v6", "a:a b:b j:j k:b m:a"))
		checkIndexOf(t, q, []string{"a"}, index("a", "j:j keg:j tun:tun"))
		checkIndexOf(t, wrong, []string{"a"}, impl.PlantIndex{})
		checkIndexOf(t, p, nil, index("", "a:a b:b j:j k:k m:m"))
		checkTurn(t, q, index("a", "j:j keg:j tun:tun"), "b", true, index("a b", "j:j keg:j tun:j"))
		checkTurn(t, q, index("a", "j:j keg:j tun:tun"), "c", true, index("a c", "j:j keg:j tun:j"))
		checkTurn(t, wrong, index("a", "j:j keg:j tun:tun"), "c", true, impl.PlantIndex{})
		checkTurn(t, q, index("", ""), "c", false, index("", "j:j keg:keg tun:tun"))
		checkJoined(t, index("", "j:j keg:keg"), "j", "keg", false)
		checkJoined(t, index("", "j:j keg:j"), "j", "keg", true)
	}
}

func checkNoMoreGoroutines(t *testing.T, before int) {
	t.Helper()
	// One that has done its last work may still be on its way out.
	for range 1000 {
		if runtime.NumGoroutine() <= before {
			return
		}
		time.Sleep(time.Millisecond)
	}
	t.Errorf("there were %d goroutines, and are %d", before, runtime.NumGoroutine())
}

func TestGoroutinesOfIndexesHaveEnded(t *testing.T) {
	before := runtime.NumGoroutine()
	full, wrong := fullPlant(), spoilt()
	for i := range 500 {
		x := impl.PlantIndexOf(full, namesOfValves(full))
		impl.PlantTurn(full, x, "v15", i%2 == 0)
		impl.PlantIndexOf(impl.Plant{}, nil)
		impl.PlantTurn(wrong[i%len(wrong)], x, "a", true)
	}
	checkNoMoreGoroutines(t, before)
}

// howeverGoroutinesRun checks again and again, with one and with many of them at once.
func howeverGoroutinesRun(check func()) {
	defer runtime.GOMAXPROCS(runtime.GOMAXPROCS(0))
	for _, at := range []int{1, 2, 3, 16} {
		runtime.GOMAXPROCS(at)
		for range 200 {
			check()
		}
	}
}

func TestIndexesHoweverGoroutinesRun(t *testing.T) {
	p := fullPlant()
	open := pick(namesOfValves(p), 0x2d5b7)
	want, less := indexByDefinition(p, open), indexByDefinition(p, turned(open, "v10", false))
	howeverGoroutinesRun(func() {
		checkIndexOf(t, p, open, want)
		checkTurn(t, p, want, "v10", false, less)
		checkTurn(t, p, less, "v10", true, want)
	})
}

func TestIndexesOfManyCallersAtOnce(t *testing.T) {
	p, q := fullPlant(), smallPlant()
	open := pick(namesOfValves(p), 0x2d5b7)
	x := indexByDefinition(p, open)
	less := indexByDefinition(p, turned(open, "v10", false))
	var callers sync.WaitGroup
	for range 8 {
		callers.Go(func() {
			for range 100 {
				checkIndexOf(t, p, open, x)
				checkTurn(t, p, x, "v10", false, less)
				checkTurn(t, p, less, "v10", true, x)
				checkTurn(t, q, index("a", ""), "c", true, index("a c", "j:j keg:j tun:j"))
				checkJoined(t, x, "p10", "p11", true)
			}
		})
	}
	callers.Wait()
}
