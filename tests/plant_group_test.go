package tests

import (
	"reflect"
	"slices"
	"strings"
	"testing"
	"unsafe"

	"loop.example/malthouse/impl"
)

// pairedPlant has a valve between each two of five places, and a second one between two of them; the valves' names go another way than the places'.
func pairedPlant() impl.Plant {
	return impl.Plant{
		Places: []impl.PlantPlace{{Name: "a", Cap: 9, Station: "w"}, {Name: "b", Cap: 9, Station: "w"}, {Name: "j", Station: "e"}, {Name: "k", Station: "w"}, {Name: "m", Station: "e"}},
		Valves: []impl.PlantValve{
			{Name: "v0", A: "k", B: "m", Station: "e"},
			{Name: "v1", A: "b", B: "j", Station: "e"},
			{Name: "v2", A: "a", B: "m", Station: "w"},
			{Name: "v3", A: "j", B: "k", Station: "e"},
			{Name: "v4", A: "a", B: "b", Station: "w"},
			{Name: "v5", A: "j", B: "m", Station: "e"},
			{Name: "v6", A: "b", B: "k", Station: "w"},
			{Name: "v7", A: "a", B: "j", Station: "e"},
			{Name: "v8", A: "b", B: "m", Station: "w"},
			{Name: "v9", A: "a", B: "k", Station: "w"},
			{Name: "w0", A: "j", B: "k", Station: "w"},
		},
	}
}

func namesOfPlaces(p impl.Plant) []string {
	var names []string
	for _, x := range p.Places {
		names = append(names, x.Name)
	}
	return names
}

func namesOfValves(p impl.Plant) []string {
	var names []string
	for _, v := range p.Valves {
		names = append(names, v.Name)
	}
	return names
}

// noNames is texts that are no name of a place or a valve of the plants here.
func noNames() []string {
	return []string{"", "none", "A", "J", " j", "j ", "a\x00", "\xff", "kegs", "ke", "v", "v00", strings.Repeat("j", 10000)}
}

// pick is those of a list whose bits are set.
func pick[T any](list []T, bits int) []T {
	var some []T
	for i, x := range list {
		if bits>>i&1 == 1 {
			some = append(some, x)
		}
	}
	return some
}

// joinedByDefinition is of each two places whether a way along open valves leads from one to the other.
func joinedByDefinition(p impl.Plant, open []string) map[[2]string]bool {
	joined := map[[2]string]bool{}
	for _, x := range p.Places {
		joined[[2]string{x.Name, x.Name}] = true
	}
	for _, v := range p.Valves {
		if slices.Contains(open, v.Name) {
			joined[[2]string{v.A, v.B}] = true
			joined[[2]string{v.B, v.A}] = true
		}
	}
	for _, by := range p.Places {
		for _, a := range p.Places {
			for _, b := range p.Places {
				if joined[[2]string{a.Name, by.Name}] && joined[[2]string{by.Name, b.Name}] {
					joined[[2]string{a.Name, b.Name}] = true
				}
			}
		}
	}
	return joined
}

func groupByDefinition(p impl.Plant, open []string, place string) []string {
	joined := joinedByDefinition(p, open)
	var group []string
	for _, x := range p.Places {
		if joined[[2]string{place, x.Name}] {
			group = append(group, x.Name)
		}
	}
	return group
}

func checkGroup(t *testing.T, p impl.Plant, open []string, place string, want ...string) {
	t.Helper()
	if got := impl.PlantGroup(p, open, place); !slices.Equal(got, want) {
		t.Errorf("PlantGroup with %q of %q = %q; want %q", open, place, got, want)
	}
}

func checkGroups(t *testing.T, p impl.Plant, open []string, want ...[]string) {
	t.Helper()
	got := impl.PlantGroups(p, open)
	if !slices.EqualFunc(got, want, func(a impl.PlantSet, b []string) bool { return slices.Equal(a.Places, b) }) {
		t.Errorf("PlantGroups with %q = %q; want %q", open, got, want)
	}
}

func TestValvesBesidePlaces(t *testing.T) {
	p := pairedPlant()
	p.Places = append(p.Places, impl.PlantPlace{Name: "z", Cap: 3, Station: "w"})
	for place, want := range map[string][]string{
		"a": {"v2", "v4", "v7", "v9"},
		"b": {"v1", "v4", "v6", "v8"},
		"j": {"v1", "v3", "v5", "v7", "w0"},
		"k": {"v0", "v3", "v6", "v9", "w0"},
		"m": {"v0", "v2", "v5", "v8"},
		"z": nil,
	} {
		if got := impl.PlantBeside(p, place); !slices.Equal(got, want) {
			t.Errorf("PlantBeside of %q = %q; want %q", place, got, want)
		}
	}
}

func TestValvesBesideNoPlace(t *testing.T) {
	for _, p := range someValid() {
		for _, text := range append(noNames(), "west", "v0", "ale") {
			if got := impl.PlantBeside(p, text); len(got) != 0 {
				t.Errorf("PlantBeside of %q = %q", text, got)
			}
		}
	}
}

func TestValvesBesideAllPlaces(t *testing.T) {
	for what, p := range someValid() {
		for _, x := range p.Places {
			var want []string
			for _, v := range p.Valves {
				if v.A == x.Name || v.B == x.Name {
					want = append(want, v.Name)
				}
			}
			if got := impl.PlantBeside(p, x.Name); !slices.Equal(got, want) {
				t.Errorf("%s: PlantBeside of %q = %q; want %q", what, x.Name, got, want)
			}
		}
	}
}

func TestGroupsOfOrdinaryPlants(t *testing.T) {
	p := smallPlant()
	for _, open := range [][]string{nil, {}, noNames()} {
		for _, place := range namesOfPlaces(p) {
			checkGroup(t, p, open, place, place)
		}
		checkGroups(t, p, open, []string{"j"}, []string{"keg"}, []string{"tun"})
	}
	for _, open := range [][]string{{"a"}, {"a", "a"}, {"a", "none", ""}, {"A", "a", "a ", "a"}} {
		checkGroup(t, p, open, "j", "j", "keg")
		checkGroup(t, p, open, "keg", "j", "keg")
		checkGroup(t, p, open, "tun", "tun")
		checkGroups(t, p, open, []string{"j", "keg"}, []string{"tun"})
	}
	checkGroups(t, p, []string{"c"}, []string{"j"}, []string{"keg", "tun"})
	checkGroups(t, p, []string{"b"}, []string{"j", "tun"}, []string{"keg"})
	for _, open := range [][]string{{"a", "b"}, {"b", "a"}, {"c", "a"}, {"a", "b", "c"}, {"c", "b", "none", "c"}} {
		for _, place := range namesOfPlaces(p) {
			checkGroup(t, p, open, place, "j", "keg", "tun")
		}
		checkGroups(t, p, open, []string{"j", "keg", "tun"})
	}
}

func TestGroupsAreOrderedByTheirFirstPlaces(t *testing.T) {
	p := pairedPlant()
	checkGroups(t, p, []string{"v2", "v6"}, []string{"a", "m"}, []string{"b", "k"}, []string{"j"})
	checkGroups(t, p, []string{"v8", "v9"}, []string{"a", "k"}, []string{"b", "m"}, []string{"j"})
	checkGroups(t, p, []string{"v0"}, []string{"a"}, []string{"b"}, []string{"j"}, []string{"k", "m"})
	checkGroups(t, p, []string{"w0", "v3"}, []string{"a"}, []string{"b"}, []string{"j", "k"}, []string{"m"})
	checkGroup(t, p, []string{"v2", "v5", "v3"}, "k", "a", "j", "k", "m")
}

func TestGroupOfNoPlace(t *testing.T) {
	for _, p := range someValid() {
		for _, text := range append(noNames(), "c", "west", "ale", "v10") {
			checkGroup(t, p, append(namesOfValves(p), text), text)
			checkGroup(t, p, nil, text)
		}
	}
}

func TestGroupsOfTheEmptyPlant(t *testing.T) {
	for _, p := range []impl.Plant{{}, {Stuffs: letters(3)}, {Places: []impl.PlantPlace{}}} {
		checkGroups(t, p, nil)
		checkGroups(t, p, []string{"a", ""})
	}
}

func TestGroupsOfOneLongLine(t *testing.T) {
	p := fullPlant()
	all := namesOfPlaces(p)
	open := namesOfValves(p)
	checkGroups(t, p, open, all)
	slices.Reverse(open)
	for _, place := range all {
		checkGroup(t, p, open, place, all...)
	}
	// v13 and v26 lie between the same two places; without both the line is in two.
	open = slices.DeleteFunc(open, func(name string) bool { return name == "v13" })
	checkGroups(t, p, open, all)
	open = slices.DeleteFunc(open, func(name string) bool { return name == "v26" })
	checkGroups(t, p, open, all[:4], all[4:])
}

// Promise 4.
func TestGroupsAreAllThatIsJoined(t *testing.T) {
	p := pairedPlant()
	for bits := range 1 << len(p.Valves) {
		open := pick(namesOfValves(p), bits)
		if bits%3 == 0 {
			slices.Reverse(open)
		}
		if bits%5 == 0 {
			open = append([]string{"none", ""}, append(open, open...)...)
		}
		var groups [][]string
		for _, x := range p.Places {
			want := groupByDefinition(p, open, x.Name)
			checkGroup(t, p, open, x.Name, want...)
			if want[0] == x.Name {
				groups = append(groups, want)
			}
		}
		checkGroups(t, p, open, groups...)
	}
}

// Promise 4.
func TestGroupsHaveEachPlaceOnce(t *testing.T) {
	for what, p := range someValid() {
		for bits := range 1 << min(len(p.Valves), 12) {
			open := pick(namesOfValves(p), bits<<(bits%7))
			var places []string
			for _, g := range impl.PlantGroups(p, open) {
				for _, place := range g.Places {
					checkGroup(t, p, open, place, g.Places...)
				}
				places = append(places, g.Places...)
			}
			slices.Sort(places)
			if !slices.Equal(places, namesOfPlaces(p)) {
				t.Errorf("%s: the groups with %q have the places %q", what, open, places)
			}
		}
	}
}

// notValid is plants that are not valid, some of them by being too long.
func notValid() []impl.Plant {
	all := spoilt()
	for _, text := range []string{"", "A", "abcdefghi"} {
		for _, p := range named(text) {
			all = append(all, p)
		}
	}
	tooMany := fullPlant()
	tooMany.Valves = append(tooMany.Valves, impl.PlantValve{Name: "z", A: "p10", B: "p11", Station: "east"})
	turned := smallPlant()
	slices.Reverse(turned.Places)
	loop := smallPlant()
	loop.Valves[0].B = "j"
	return append(all, tooMany, turned, loop, impl.Plant{Places: make([]impl.PlantPlace, 100000)})
}

func TestGroupsOfPlantsThatAreNotValid(t *testing.T) {
	for i, p := range notValid() {
		checkValid(t, "not valid", p, false)
		for _, text := range []string{"j", "keg", "tun", "none", "p10", "a", "", "A"} {
			if got := impl.PlantBeside(p, text); len(got) != 0 {
				t.Errorf("plant %d: PlantBeside of %q = %q", i, text, got)
			}
			checkGroup(t, p, nil, text)
			checkGroup(t, p, []string{"a", "b", "c"}, text)
		}
		checkGroups(t, p, nil)
		checkGroups(t, p, []string{"a", "b", "c"})
	}
}

// eachWithin tells a value, and all that stands anywhere in its lists and structs.
func eachWithin(v reflect.Value, tell func(v reflect.Value)) {
	tell(v)
	switch v.Kind() {
	case reflect.Slice:
		for i := range v.Len() {
			eachWithin(v.Index(i), tell)
		}
	case reflect.Struct:
		for i := range v.NumField() {
			eachWithin(v.Field(i), tell)
		}
	}
}

// textsIn is all texts that stand anywhere in a value of lists and structs.
func textsIn(value any) []string {
	var all []string
	eachWithin(reflect.ValueOf(value), func(v reflect.Value) {
		if v.Kind() == reflect.String {
			all = append(all, v.String())
		}
	})
	return all
}

// checkOwnMemory says of an answer that none of its texts lies where one of the arguments does, and no two of them in one place.
func checkOwnMemory(t *testing.T, what string, answer any, arguments ...any) {
	t.Helper()
	seen := map[*byte]bool{}
	for _, argument := range arguments {
		for _, text := range textsIn(argument) {
			seen[unsafe.StringData(text)] = true
		}
	}
	for _, text := range textsIn(answer) {
		at := unsafe.StringData(text)
		if text != "" && seen[at] {
			t.Errorf("%s: the memory of %q is not its own", what, text)
		}
		seen[at] = true
	}
}

// spoilTexts writes into a list, and into all the room behind its end.
func spoilTexts(list []string) {
	for i := range list[:cap(list)] {
		list[:cap(list)][i] = "spoilt"
	}
}

func TestGroupsAreNewMemory(t *testing.T) {
	p := pairedPlant()
	open := []string{"v6", "v2"}
	place := strings.Clone("m")
	beside, group, groups := impl.PlantBeside(p, place), impl.PlantGroup(p, open, place), impl.PlantGroups(p, open)
	checkOwnMemory(t, "PlantBeside", beside, p, place)
	checkOwnMemory(t, "PlantGroup", group, p, open, place)
	checkOwnMemory(t, "PlantGroups", groups, p, open)
	spoilTexts(beside)
	spoilTexts(group)
	for i := range groups {
		for j := i + 1; j < len(groups); j++ {
			want := slices.Clone(groups[j].Places)
			spoilTexts(groups[i].Places)
			if !slices.Equal(groups[j].Places, want) {
				t.Errorf("groups %d and %d share", i, j)
			}
		}
	}
	if !samePlant(p, pairedPlant()) || !slices.Equal(open, []string{"v6", "v2"}) {
		t.Errorf("the arguments became %v, %q", p, open)
	}
	checkGroup(t, p, open, "m", "a", "m")
}

func TestGroupsLeaveTheirArguments(t *testing.T) {
	for _, from := range append(spoilt(), smallPlant(), fullPlant(), pairedPlant()) {
		p := roomyPlant(from)
		names := namesOfValves(p)
		slices.Reverse(names)
		open := roomy(names, "behind")
		want, wantOpen := cloned(toTheEnd(p)), slices.Clone(open[:cap(open)])
		for range 2 {
			for _, place := range append(namesOfPlaces(p), "none") {
				impl.PlantBeside(p, place)
				impl.PlantGroup(p, open, place)
			}
			impl.PlantGroups(p, open)
		}
		if !reflect.DeepEqual(toTheEnd(p), want) || !slices.Equal(open[:cap(open)], wantOpen) {
			t.Errorf("the arguments became %+v, %q", toTheEnd(p), open[:cap(open)])
		}
	}
}

func TestGroupsWithVeryManyOpen(t *testing.T) {
	open := slices.Repeat([]string{"none", "a", "", "w0"}, 100000)
	checkGroups(t, smallPlant(), open, []string{"j", "keg"}, []string{"tun"})
	checkGroup(t, pairedPlant(), open, "k", "j", "k")
}

// What one call was given must not be seen in the next one.
func TestGroupsKeepNothing(t *testing.T) {
	p, q := pairedPlant(), smallPlant()
	for range 3 {
		checkGroups(t, p, []string{"v2", "v6"}, []string{"a", "m"}, []string{"b", "k"}, []string{"j"})
		checkGroups(t, q, []string{"a"}, []string{"j", "keg"}, []string{"tun"})
		checkGroups(t, p, nil, []string{"a"}, []string{"b"}, []string{"j"}, []string{"k"}, []string{"m"})
		checkGroup(t, q, []string{"v2"}, "j", "j")
		checkGroup(t, q, []string{"b"}, "j", "j", "tun")
	}
}
