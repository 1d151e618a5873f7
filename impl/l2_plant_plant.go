package impl

import (
	"cmp"
	"slices"
	"strings"
)

// Limits of plants.
const (
	PlantMaxName   = 8
	PlantMaxStuffs = 8
	PlantMaxFoes   = 12
	PlantMaxPlaces = 14
	PlantMaxValves = 18
	PlantMaxCap    = 1000
)

// PlantFoe is two stuffs that must not meet.
type PlantFoe struct {
	A string
	B string
}

// PlantPlace is a vessel, or, if it can hold nothing, a joint.
type PlantPlace struct {
	Name    string
	Cap     int
	Station string
}

// PlantValve is a valve between two places.
type PlantValve struct {
	Name    string
	A       string
	B       string
	Station string
}

// Plant is all there is.
type Plant struct {
	Stuffs []string
	Foes   []PlantFoe
	Places []PlantPlace
	Valves []PlantValve
}

// isName is of use to all chapters: a name is the same in each.
func isName(text string) bool {
	if len(text) < 1 || len(text) > PlantMaxName {
		return false
	}
	for _, r := range text {
		if !isNameRune(r) {
			return false
		}
	}
	return true
}

func isNameRune(r rune) bool {
	return r >= 'a' && r <= 'z' || r >= '0' && r <= '9' || r == '-'
}

func compareFoes(a, b PlantFoe) int {
	return cmp.Or(strings.Compare(a.A, b.A), strings.Compare(a.B, b.B))
}

func comparePlaces(a, b PlantPlace) int {
	return strings.Compare(a.Name, b.Name)
}

func compareValves(a, b PlantValve) int {
	return strings.Compare(a.Name, b.Name)
}

// ascends says whether each of a list is ahead of the next one, so that none stands there twice.
func ascends[T any](list []T, compare func(a, b T) int) bool {
	for i := 1; i < len(list); i++ {
		if compare(list[i-1], list[i]) >= 0 {
			return false
		}
	}
	return true
}

func (p Plant) stuffsOk() bool {
	if len(p.Stuffs) > PlantMaxStuffs {
		return false
	}
	for _, s := range p.Stuffs {
		if !isName(s) {
			return false
		}
	}
	return ascends(p.Stuffs, strings.Compare)
}

func (p Plant) foesOk() bool {
	if len(p.Foes) > PlantMaxFoes {
		return false
	}
	for _, f := range p.Foes {
		if f.A >= f.B || !slices.Contains(p.Stuffs, f.A) || !slices.Contains(p.Stuffs, f.B) {
			return false
		}
	}
	return ascends(p.Foes, compareFoes)
}

func (p Plant) placesOk() bool {
	if len(p.Places) > PlantMaxPlaces {
		return false
	}
	for _, x := range p.Places {
		if !isName(x.Name) || x.Cap < 0 || x.Cap > PlantMaxCap || !isName(x.Station) {
			return false
		}
	}
	return ascends(p.Places, comparePlaces)
}

func (p Plant) valvesOk() bool {
	if len(p.Valves) > PlantMaxValves {
		return false
	}
	for _, v := range p.Valves {
		if !isName(v.Name) || v.A >= v.B || !p.hasPlace(v.A) || !p.hasPlace(v.B) || !isName(v.Station) {
			return false
		}
	}
	return ascends(p.Valves, compareValves)
}

func (p Plant) hasPlace(name string) bool {
	return slices.ContainsFunc(p.Places, func(x PlantPlace) bool { return x.Name == name })
}

// foePairs has each pair in both orders, as foes go both ways; they do in all chapters.
type foePairs map[PlantFoe]int

func (pairs foePairs) add(a, b string) {
	pairs[PlantFoe{A: a, B: b}]++
	pairs[PlantFoe{A: b, B: a}]++
}

func (pairs foePairs) has(a, b string) bool {
	return pairs[PlantFoe{A: a, B: b}] > 0
}

// meet says whether one of these stuffs and one of those are foes.
func (pairs foePairs) meet(these, those []string) bool {
	for _, one := range these {
		for _, other := range those {
			if pairs.has(one, other) {
				return true
			}
		}
	}
	return false
}

func (p Plant) foesBothWays() foePairs {
	pairs := foePairs{}
	for _, f := range p.Foes {
		pairs.add(f.A, f.B)
	}
	return pairs
}

// PlantValid says whether a plant is valid.
func PlantValid(p Plant) bool {
	// What the others are held against is looked at first, so that no check walks a list that is too long.
	for _, ok := range []func() bool{p.stuffsOk, p.foesOk, p.placesOk, p.valvesOk} {
		if !ok() {
			return false
		}
	}
	return true
}

// PlantFoes says whether two stuffs must not meet.
func PlantFoes(p Plant, a string, b string) bool {
	return PlantValid(p) && p.foesBothWays().has(a, b)
}
