package tests

import (
	"math"
	"reflect"
	"slices"
	"strconv"
	"strings"
	"sync"
	"testing"

	"loop.example/malthouse/impl"
)

// places is written as "tun>5 keg<5 j": so much out of the first, so much into the second, and by the third.
func places(text string) []impl.ClaimUse {
	var all []impl.ClaimUse
	for _, field := range strings.Fields(text) {
		u := impl.ClaimUse{Name: field, Role: impl.ClaimBy}
		if at := strings.IndexAny(field, "<>"); at >= 0 {
			amount, err := strconv.Atoi(field[at+1:])
			if err != nil {
				panic(err)
			}
			u = impl.ClaimUse{Name: field[:at], Role: choose(field[at] == '>', impl.ClaimFrom, impl.ClaimTo), Amount: amount}
		}
		all = append(all, u)
	}
	return all
}

// numbered is names that ascend.
func numbered(name string, many int) []string {
	var all []string
	for i := range many {
		all = append(all, name+strconv.Itoa(10+i))
	}
	return all
}

func moveOf(number int, stuffs, uses, opens, shuts string) impl.ClaimWant {
	return impl.ClaimWant{Number: number, Kind: impl.ClaimMove, Stuffs: strings.Fields(stuffs), Uses: places(uses), Opens: strings.Fields(opens), Shuts: strings.Fields(shuts)}
}

func cleanOf(number int, uses, shuts string) impl.ClaimWant {
	return impl.ClaimWant{Number: number, Kind: impl.ClaimClean, Uses: places(uses), Shuts: strings.Fields(shuts)}
}

func permitOf(number int, uses, shuts string) impl.ClaimWant {
	return impl.ClaimWant{Number: number, Kind: impl.ClaimPermit, Uses: places(uses), Shuts: strings.Fields(shuts)}
}

// smallMove leaves room for more in each list.
func smallMove() impl.ClaimWant {
	return moveOf(7, "ale malt water", "j keg<5 tun>9", "v1 v2", "v3 v4 v5")
}

// fullMove has as much of everything as may be.
func fullMove() impl.ClaimWant {
	w := impl.ClaimWant{Number: impl.ClaimMaxNumber, Kind: impl.ClaimMove, Stuffs: numbered("stuff-", impl.ClaimMaxStuffs), Opens: numbered("o-", impl.ClaimMaxTurns), Shuts: numbered("s-", impl.ClaimMaxTurns)}
	for _, name := range numbered("place-", impl.ClaimMaxUses) {
		w.Uses = append(w.Uses, impl.ClaimUse{Name: name, Role: impl.ClaimTo, Amount: impl.ClaimMaxCap})
	}
	return w
}

// fullStill is as much as may be of a kind that moves nothing.
func fullStill(kind int) impl.ClaimWant {
	w := fullMove()
	w.Kind, w.Stuffs, w.Opens = kind, nil, nil
	for i := range w.Uses {
		w.Uses[i].Role, w.Uses[i].Amount = impl.ClaimBy, 0
	}
	return w
}

// someWants is wants that are ok, each in a way of its own.
func someWants() map[string]impl.ClaimWant {
	return map[string]impl.ClaimWant{
		"small move":               smallMove(),
		"full move":                fullMove(),
		"full clean":               fullStill(impl.ClaimClean),
		"full permit":              fullStill(impl.ClaimPermit),
		"small clean":              cleanOf(1, "keg tun", "v1 v2"),
		"small permit":             permitOf(1, "keg tun", "v1 v2"),
		"a move that uses":         moveOf(1, "a", "p", "", ""),
		"a move that opens":        moveOf(1, "a", "", "v", ""),
		"a move that shuts":        moveOf(1, "a", "", "", "v"),
		"a clean that uses":        cleanOf(1, "p", ""),
		"a clean that shuts":       cleanOf(1, "", "v"),
		"a permit that uses":       permitOf(1, "p", ""),
		"a permit that shuts":      permitOf(1, "", "v"),
		"one name for all":         moveOf(1, "x", "x>1", "x", "y"),
		"empty lists":              {Number: 1, Kind: impl.ClaimPermit, Stuffs: []string{}, Uses: []impl.ClaimUse{}, Opens: []string{}, Shuts: []string{"v"}},
		"out of two, into none":    moveOf(1, "a", "p>1 q>1000", "", ""),
		"into two, out of none":    moveOf(1, "a", "p<1000 q<1", "", ""),
		"roles go back":            moveOf(1, "a", "p q<1 r>1", "", ""),
		"amounts go back":          moveOf(1, "a", "p>9 q>3 r<9 s<3", "", ""),
		"shut ahead of what opens": moveOf(1, "a", "", "v", "u w"),
		"amounts that differ":      moveOf(1, "a", "p>9 q<3", "", ""),
	}
}

func checkWant(t *testing.T, what string, w impl.ClaimWant, want bool) {
	t.Helper()
	if got := impl.ClaimWantOk(w); got != want {
		t.Errorf("%s: ClaimWantOk = %v; want %v: %+v", what, got, want, w)
	}
}

func TestWantsThatAreOk(t *testing.T) {
	for what, w := range someWants() {
		checkWant(t, what, w, true)
	}
}

// someKinds is each kind, and whether it is one.
func someKinds() map[int]bool {
	return map[int]bool{math.MinInt: false, -1: false, 0: false, impl.ClaimMove: true, impl.ClaimClean: true, impl.ClaimPermit: true, 4: false, 5: false, 257: false, 1 + 1<<32: false, math.MaxInt: false}
}

func TestKindsOfWants(t *testing.T) {
	if impl.ClaimMove != 1 || impl.ClaimClean != 2 || impl.ClaimPermit != 3 || impl.ClaimFrom != 1 || impl.ClaimTo != 2 || impl.ClaimBy != 3 {
		t.Error("the constants are not the document's")
	}
	for kind, is := range someKinds() {
		what := "kind " + strconv.Itoa(kind)
		w := permitOf(1, "p", "v")
		w.Kind = kind
		checkWant(t, what+" without stuffs", w, is && kind != impl.ClaimMove)
		w.Uses = nil
		checkWant(t, what+" with valves kept shut alone", w, is && kind != impl.ClaimMove)
		w = moveOf(1, "a", "p", "", "v")
		w.Kind = kind
		checkWant(t, what+" with stuffs", w, kind == impl.ClaimMove)
		w = smallMove()
		w.Kind = kind
		checkWant(t, what+" with all", w, kind == impl.ClaimMove)
	}
}

func TestNumbersOfWants(t *testing.T) {
	for number, want := range map[int]bool{math.MinInt: false, -1000000: false, -1: false, 0: false, 1: true, 2: true, 999999: true, 1000000: true, 1000001: false, 1 + 1<<32: false, math.MaxInt: false} {
		for what, w := range someWants() {
			w.Number = number
			checkWant(t, what+" under "+strconv.Itoa(number), w, want)
		}
	}
}

func TestStuffsOfWants(t *testing.T) {
	for kind, is := range someKinds() {
		w := permitOf(1, "p", "v")
		w.Kind = kind
		for many := range impl.ClaimMaxStuffs + 3 {
			w.Stuffs = numbered("s", many)
			want := is && many == 0
			if kind == impl.ClaimMove {
				want = many >= 1 && many <= 8
			}
			checkWant(t, strconv.Itoa(many)+" stuffs", w, want)
		}
	}
	w := fullMove()
	w.Stuffs = append(w.Stuffs, "stuff-99")
	checkWant(t, "one stuff too many", w, false)
	w.Stuffs = w.Stuffs[1:]
	checkWant(t, "that one, without the first", w, true)
	w.Stuffs = nil
	checkWant(t, "a move of nothing", w, false)
	w.Stuffs = []string{}
	checkWant(t, "a move of an empty list", w, false)
}

// checkWantOrder tells that a list of a want is asked to ascend: no two of it may change places, nor be the same.
func checkWantOrder[T any](t *testing.T, what string, w impl.ClaimWant, list func(w *impl.ClaimWant) *[]T) {
	t.Helper()
	if len(*list(&w)) < 2 {
		t.Errorf("%s: too few to be out of order", what)
	}
	for i, wrong := range swapped(*list(&w)) {
		changed := w
		*list(&changed) = wrong
		checkWant(t, what+" "+strconv.Itoa(i), changed, false)
	}
}

func TestWantsOutOfOrder(t *testing.T) {
	for what, w := range map[string]impl.ClaimWant{"small": smallMove(), "full": fullMove()} {
		checkWantOrder(t, what+" stuffs", w, func(w *impl.ClaimWant) *[]string { return &w.Stuffs })
		checkWantOrder(t, what+" uses", w, func(w *impl.ClaimWant) *[]impl.ClaimUse { return &w.Uses })
		checkWantOrder(t, what+" opens", w, func(w *impl.ClaimWant) *[]string { return &w.Opens })
		checkWantOrder(t, what+" shuts", w, func(w *impl.ClaimWant) *[]string { return &w.Shuts })
	}
	for _, kind := range []int{impl.ClaimClean, impl.ClaimPermit} {
		w := fullStill(kind)
		checkWantOrder(t, "still uses", w, func(w *impl.ClaimWant) *[]impl.ClaimUse { return &w.Uses })
		checkWantOrder(t, "still shuts", w, func(w *impl.ClaimWant) *[]string { return &w.Shuts })
	}
}

func TestOnePlaceTwiceInAWant(t *testing.T) {
	for _, uses := range []string{"p p", "p>1 p<1", "p<1 p>1", "p>1 p>1", "p>1 p>2", "p p>1", "p<1 p", "a p>1 p<1", "p>1 p<1 q", "p q p"} {
		checkWant(t, uses, moveOf(1, "a", uses, "", ""), false)
	}
	for _, uses := range []string{"p p", "a p p", "p p q", "p q p"} {
		checkWant(t, "clean "+uses, cleanOf(1, uses, ""), false)
		checkWant(t, "permit "+uses, permitOf(1, uses, ""), false)
	}
}

func TestOrderOfNamesInWants(t *testing.T) {
	names := []string{"-", "--", "0", "9", "a", "a-", "a0", "aa"}
	for i, a := range names {
		for j, b := range names {
			what, two := " "+a+" "+b, a+" "+b
			checkWant(t, "stuffs"+what, moveOf(1, two, "p", "", ""), i < j)
			checkWant(t, "uses"+what, moveOf(1, "a", two, "", ""), i < j)
			checkWant(t, "uses of a clean"+what, cleanOf(1, two, ""), i < j)
			checkWant(t, "uses of a permit"+what, permitOf(1, two, ""), i < j)
			checkWant(t, "opens"+what, moveOf(1, "a", "", two, ""), i < j)
			checkWant(t, "shuts"+what, moveOf(1, "a", "", "", two), i < j)
			checkWant(t, "shuts of a clean"+what, cleanOf(1, "", two), i < j)
			checkWant(t, "one opened, the other kept shut"+what, moveOf(1, "a", "", a, b), i != j)
		}
	}
}

// namedInWants is wants in which a text stands where a name is asked for, and nothing else is wrong.
func namedInWants(text string) map[string]impl.ClaimWant {
	all := map[string]impl.ClaimWant{
		"stuff":             {Number: 1, Kind: impl.ClaimMove, Stuffs: []string{text}, Shuts: []string{"v"}},
		"place gone from":   {Number: 1, Kind: impl.ClaimMove, Stuffs: []string{"a"}, Uses: []impl.ClaimUse{{Name: text, Role: impl.ClaimFrom, Amount: 1}}},
		"place come to":     {Number: 1, Kind: impl.ClaimMove, Stuffs: []string{"a"}, Uses: []impl.ClaimUse{{Name: text, Role: impl.ClaimTo, Amount: 1}}},
		"place passed by":   {Number: 1, Kind: impl.ClaimMove, Stuffs: []string{"a"}, Uses: []impl.ClaimUse{{Name: text, Role: impl.ClaimBy}}},
		"place cleaned":     {Number: 1, Kind: impl.ClaimClean, Uses: []impl.ClaimUse{{Name: text, Role: impl.ClaimBy}}},
		"place worked on":   {Number: 1, Kind: impl.ClaimPermit, Uses: []impl.ClaimUse{{Name: text, Role: impl.ClaimBy}}},
		"valve opened":      {Number: 1, Kind: impl.ClaimMove, Stuffs: []string{"a"}, Opens: []string{text}},
		"valve kept shut":   {Number: 1, Kind: impl.ClaimMove, Stuffs: []string{"a"}, Shuts: []string{text}},
		"valve of a clean":  {Number: 1, Kind: impl.ClaimClean, Shuts: []string{text}},
		"valve of a permit": {Number: 1, Kind: impl.ClaimPermit, Shuts: []string{text}},
	}
	// Behind another one a text is to be the later one.
	if text > "-" {
		all["second stuff"] = impl.ClaimWant{Number: 1, Kind: impl.ClaimMove, Stuffs: []string{"-", text}, Shuts: []string{"v"}}
		all["second place"] = impl.ClaimWant{Number: 1, Kind: impl.ClaimClean, Uses: []impl.ClaimUse{{Name: "-", Role: impl.ClaimBy}, {Name: text, Role: impl.ClaimBy}}}
		all["second valve opened"] = impl.ClaimWant{Number: 1, Kind: impl.ClaimMove, Stuffs: []string{"a"}, Opens: []string{"-", text}}
		all["second valve kept shut"] = impl.ClaimWant{Number: 1, Kind: impl.ClaimPermit, Shuts: []string{"-", text}}
	}
	return all
}

func TestNamesInWants(t *testing.T) {
	eachText(func(text string, isName bool) {
		for what, w := range namedInWants(text) {
			checkWant(t, what+" "+strconv.Quote(text), w, isName)
		}
	})
}

func TestHowManyPlacesOfAWant(t *testing.T) {
	for _, kind := range []int{impl.ClaimMove, impl.ClaimClean, impl.ClaimPermit} {
		w := fullStill(kind)
		if kind == impl.ClaimMove {
			w.Stuffs = []string{"a"}
		}
		w.Shuts = nil
		names := numbered("p", impl.ClaimMaxUses+2)
		for many := range len(names) + 1 {
			w.Uses = places(strings.Join(names[:many], " "))
			checkWant(t, strconv.Itoa(many)+" places", w, many >= 1 && many <= 8)
		}
	}
	w := fullMove()
	w.Uses = append(w.Uses, impl.ClaimUse{Name: "place-99", Role: impl.ClaimBy})
	checkWant(t, "one place too many", w, false)
	w.Uses = w.Uses[1:]
	checkWant(t, "that one, without the first", w, true)
}

func TestRolesKindsAndAmounts(t *testing.T) {
	roles := []int{math.MinInt, -1, 0, impl.ClaimFrom, impl.ClaimTo, impl.ClaimBy, 4, 5, 1 + 1<<32, math.MaxInt}
	amounts := []int{math.MinInt, -1000, -1, 0, 1, 2, 999, 1000, impl.ClaimMaxCap, impl.ClaimMaxCap + 1, 1 + 1<<32, math.MaxInt}
	for kind, is := range someKinds() {
		for _, role := range roles {
			for _, amount := range amounts {
				moved := (role == impl.ClaimFrom || role == impl.ClaimTo) && amount >= 1 && amount <= 1000
				want := is && (role == impl.ClaimBy && amount == 0 || kind == impl.ClaimMove && moved)
				for at := range 3 {
					w := permitOf(1, "p q r", "v")
					w.Kind = kind
					if kind == impl.ClaimMove {
						w.Stuffs = []string{"a"}
					}
					w.Uses[at].Role, w.Uses[at].Amount = role, amount
					checkWant(t, "a role and an amount", w, want)
					w.Uses = w.Uses[at : at+1]
					checkWant(t, "a role and an amount alone", w, want)
				}
			}
		}
	}
}

func TestHowManyValvesOfAWant(t *testing.T) {
	names := numbered("v", impl.ClaimMaxTurns+2)
	for many := range len(names) + 1 {
		what, valves := strconv.Itoa(many), strings.Join(names[:many], " ")
		want := many >= 1 && many <= 12
		checkWant(t, what+" opened", moveOf(1, "a", "", valves, ""), want)
		checkWant(t, what+" kept shut", moveOf(1, "a", "", "", valves), want)
		checkWant(t, what+" kept shut by a clean", cleanOf(1, "", valves), want)
		checkWant(t, what+" kept shut by a permit", permitOf(1, "", valves), want)
	}
	for what, list := range map[string]func(w *impl.ClaimWant) *[]string{
		"opened":    func(w *impl.ClaimWant) *[]string { return &w.Opens },
		"kept shut": func(w *impl.ClaimWant) *[]string { return &w.Shuts },
	} {
		w := fullMove()
		*list(&w) = append(*list(&w), "z")
		checkWant(t, "one more "+what, w, false)
		*list(&w) = (*list(&w))[1:]
		checkWant(t, "that one, without the first", w, true)
	}
}

func TestValvesThatAreOpenedAndKeptShut(t *testing.T) {
	for _, c := range []struct {
		opens, shuts string
		want         bool
	}{
		{"v", "v", false}, {"v", "w", true}, {"w", "v", true}, {"v w", "v", false}, {"v w", "w", false}, {"v", "v w", false}, {"w", "v w", false}, {"v w", "v w", false},
		{"u w", "v", true}, {"v", "u w", true}, {"u w", "t v x", true}, {"u w x", "t v x", false}, {"t u w", "t v x", false}, {"t v w", "u v x", false}, {"v", "vv", true}, {"vv", "v", true},
	} {
		checkWant(t, c.opens+" / "+c.shuts, moveOf(1, "a", "p", c.opens, c.shuts), c.want)
	}
	full := fullMove()
	for _, valve := range full.Opens {
		w := full
		w.Shuts = []string{valve}
		checkWant(t, "one of all", w, false)
	}
}

func TestWhoOpens(t *testing.T) {
	for kind, is := range someKinds() {
		for _, opens := range [][]string{nil, {}, {"u"}, {"u", "w"}, numbered("o-", impl.ClaimMaxTurns)} {
			w := permitOf(1, "p", "v")
			w.Kind, w.Opens = kind, opens
			if kind == impl.ClaimMove {
				w.Stuffs = []string{"a"}
			}
			want := is && (kind == impl.ClaimMove || len(opens) == 0)
			checkWant(t, strconv.Itoa(len(opens))+" opened", w, want)
			w.Uses, w.Shuts = nil, nil
			checkWant(t, strconv.Itoa(len(opens))+" opened alone", w, kind == impl.ClaimMove && len(opens) > 0)
		}
	}
}

func TestWantsOfNothing(t *testing.T) {
	for kind, is := range someKinds() {
		for bits := range 8 {
			w := impl.ClaimWant{Number: 1, Kind: kind}
			if kind == impl.ClaimMove {
				w.Stuffs = []string{"a"}
			}
			if bits&1 != 0 {
				w.Uses = places("p")
			}
			if bits&2 != 0 {
				w.Opens = []string{"u"}
			}
			if bits&4 != 0 {
				w.Shuts = []string{"v"}
			}
			want := is && bits > 0 && (kind == impl.ClaimMove || bits&2 == 0)
			checkWant(t, "some of the lists", w, want)
		}
		w := impl.ClaimWant{Number: 1, Kind: kind, Stuffs: []string{"a"}, Uses: []impl.ClaimUse{}, Opens: []string{}, Shuts: []string{}}
		checkWant(t, "empty lists", w, false)
	}
	checkWant(t, "nothing", impl.ClaimWant{}, false)
}

func ascendingNames(names []string, most int) bool {
	for i, name := range names {
		if !nameByDefinition(name) || slices.Contains(names[:i], name) {
			return false
		}
	}
	return len(names) <= most && slices.IsSorted(names)
}

// wantByDefinition reads the chapter a second time.
func wantByDefinition(w impl.ClaimWant) bool {
	least, most := 0, 0
	switch w.Kind {
	case 1:
		least, most = 1, 8
	case 2, 3:
	default:
		return false
	}
	var used []string
	for _, u := range w.Uses {
		used = append(used, u.Name)
		low, high := 1, 1000
		switch u.Role {
		case 3:
			low, high = 0, 0
		case 1, 2:
			if w.Kind != 1 {
				return false
			}
		default:
			return false
		}
		if u.Amount < low || u.Amount > high {
			return false
		}
	}
	// What is in both of two lists that ascend makes them together no list that does.
	turns := append(slices.Clone(w.Opens), w.Shuts...)
	slices.Sort(turns)
	return len(w.Stuffs) >= least && ascendingNames(w.Stuffs, most) && ascendingNames(used, 8) &&
		ascendingNames(w.Opens, 12) && ascendingNames(w.Shuts, 12) && ascendingNames(turns, 24) &&
		(w.Kind == 1 || len(w.Opens) == 0) && len(used)+len(turns) > 0 && w.Number >= 1 && w.Number <= 1000000
}

func TestAllShortWants(t *testing.T) {
	eachOf([]string{"a", "b", "B"}, 2, func(stuffs []string) {
		eachOf([]string{"v", "w", "V"}, 2, func(opens []string) {
			eachOf([]string{"v", "w", ""}, 2, func(shuts []string) {
				for _, uses := range []string{"", "p", "p>1", "p<1", "p>1 q<1", "q p", "p>0", "p q"} {
					for kind := range 5 {
						w := impl.ClaimWant{Number: 1, Kind: kind, Stuffs: stuffs, Uses: places(uses), Opens: opens, Shuts: shuts}
						checkWant(t, "lists", w, wantByDefinition(w))
					}
				}
			})
		})
	})
}

func TestAllShortListsOfUses(t *testing.T) {
	var some []impl.ClaimUse
	for _, name := range []string{"p", "q", "Q"} {
		for role := range 5 {
			for _, amount := range []int{0, 1} {
				some = append(some, impl.ClaimUse{Name: name, Role: role, Amount: amount})
			}
		}
	}
	eachOf(some, 2, func(list []impl.ClaimUse) {
		for kind := range 5 {
			for _, stuffs := range [][]string{nil, {"a"}} {
				for _, shuts := range [][]string{nil, {"v"}} {
					w := impl.ClaimWant{Number: 1, Kind: kind, Stuffs: stuffs, Uses: list, Shuts: shuts}
					checkWant(t, "uses", w, wantByDefinition(w))
				}
			}
		}
	})
}

// rebuilt is a value in memory of its own, with so much room behind the end of each list, in which something stands.
func rebuilt(v reflect.Value, room int) reflect.Value {
	fresh := reflect.New(v.Type()).Elem()
	switch v.Kind() {
	case reflect.Slice:
		if v.Len()+room == 0 {
			break
		}
		fresh.Set(reflect.MakeSlice(v.Type(), v.Len()+room, v.Len()+room))
		for i := range v.Len() {
			fresh.Index(i).Set(rebuilt(v.Index(i), room))
		}
		for i := range room {
			markBehind(fresh.Index(v.Len() + i))
		}
		fresh.SetLen(v.Len())
	case reflect.Struct:
		for i := range v.NumField() {
			fresh.Field(i).Set(rebuilt(v.Field(i), room))
		}
	default:
		fresh.Set(v)
	}
	return fresh
}

// markBehind makes a value one that nobody would put there.
func markBehind(v reflect.Value) {
	switch v.Kind() {
	case reflect.String:
		v.SetString("behind")
	case reflect.Int:
		v.SetInt(77)
	case reflect.Struct:
		for i := range v.NumField() {
			markBehind(v.Field(i))
		}
	}
}

func copied[T any](value T) T {
	return rebuilt(reflect.ValueOf(value), 0).Interface().(T)
}

func withRoom[T any](value T) T {
	return rebuilt(reflect.ValueOf(value), 2).Interface().(T)
}

// withWhatIsBehind is a value with all that stands in the room behind its lists, in memory of its own.
func withWhatIsBehind[T any](value T) T {
	// The lists are made longer in a copy of the outer one, so that the value itself stays as it is.
	var longer func(v reflect.Value) reflect.Value
	longer = func(v reflect.Value) reflect.Value {
		fresh := reflect.New(v.Type()).Elem()
		switch v.Kind() {
		case reflect.Slice:
			fresh.Set(reflect.MakeSlice(v.Type(), v.Cap(), v.Cap()))
			for i := range v.Cap() {
				fresh.Index(i).Set(longer(v.Slice(0, v.Cap()).Index(i)))
			}
		case reflect.Struct:
			for i := range v.NumField() {
				fresh.Field(i).Set(longer(v.Field(i)))
			}
		default:
			fresh.Set(v)
		}
		return fresh
	}
	return longer(reflect.ValueOf(value)).Interface().(T)
}

func eachNumber(number reflect.Value, tell func()) {
	was := number.Int()
	for _, other := range []int64{math.MinInt64, -1, 0, 1, 2, 3, 4, was - 1, was + 1, 999, 1000, 1001, 1000000, 1000001, math.MaxInt64} {
		number.SetInt(other)
		tell()
	}
	number.SetInt(was)
}

// eachShorterAndLonger changes a list: one of it is gone, or comes twice, or is changed with the next one.
func eachShorterAndLonger(list reflect.Value, tell func()) {
	was := reflect.ValueOf(list.Interface())
	for i := range was.Len() {
		list.Set(reflect.AppendSlice(rebuilt(was.Slice(0, i), 0), was.Slice(i+1, was.Len())))
		tell()
		list.Set(reflect.AppendSlice(rebuilt(was.Slice(0, i+1), 0), was.Slice(i, was.Len())))
		tell()
		if i > 0 {
			turned := rebuilt(was, 0)
			reflect.Swapper(turned.Interface())(i-1, i)
			list.Set(turned)
			tell()
		}
	}
	list.Set(was)
}

// eachWithOneChange tells what becomes of a value when one text in it becomes one of these, one number or bool another one, or one of its lists is another one.
func eachWithOneChange[T any](from T, texts []string, tell func(changed T)) {
	value := copied(from)
	tellIt := func() { tell(value) }
	// What is told of may be changed meanwhile, so that all of it is found ahead.
	var found []reflect.Value
	eachWithin(reflect.ValueOf(&value).Elem(), func(v reflect.Value) { found = append(found, v) })
	for _, v := range found {
		switch v.Kind() {
		case reflect.String:
			was := v.String()
			for _, text := range texts {
				v.SetString(text)
				tellIt()
			}
			v.SetString(was)
		case reflect.Int:
			eachNumber(v, tellIt)
		case reflect.Bool:
			v.SetBool(!v.Bool())
			tellIt()
			v.SetBool(!v.Bool())
		case reflect.Slice:
			eachShorterAndLonger(v, tellIt)
		}
	}
}

// textsOfAll is all texts of a value, each once, and some that are names or none.
func textsOfAll(value any) []string {
	all := append(textsIn(value), "", "-", "m", "zzzzzzzz", "zzzzzzzzz", "A")
	slices.Sort(all)
	return slices.Compact(all)
}

func TestWantsOfWhichOneThingIsChanged(t *testing.T) {
	for what, from := range someWants() {
		ok, not := 0, 0
		eachWithOneChange(from, textsOfAll(from), func(w impl.ClaimWant) {
			want := wantByDefinition(w)
			checkWant(t, what, w, want)
			if want {
				ok++
			} else {
				not++
			}
		})
		if ok == 0 || not == 0 {
			t.Errorf("%s: %d are ok, %d not", what, ok, not)
		}
	}
}

func TestWantsOfWhichTwoThingsAreChanged(t *testing.T) {
	for _, from := range []impl.ClaimWant{moveOf(3, "a b", "j p>2 q<3", "u v", "w x"), cleanOf(3, "p q", "u v"), permitOf(1000, "p q", "u v")} {
		texts := textsOfAll(from)
		eachWithOneChange(from, texts, func(w impl.ClaimWant) {
			eachWithOneChange(w, texts, func(w impl.ClaimWant) {
				checkWant(t, "two things", w, wantByDefinition(w))
			})
		})
	}
}

// spoiltWants is wants that are not ok, each in a way of its own.
func spoiltWants() []impl.ClaimWant {
	var all []impl.ClaimWant
	for _, f := range []func(w *impl.ClaimWant){
		func(w *impl.ClaimWant) { w.Number = 0 },
		func(w *impl.ClaimWant) { w.Number = impl.ClaimMaxNumber + 1 },
		func(w *impl.ClaimWant) { w.Kind = 0 },
		func(w *impl.ClaimWant) { w.Kind = impl.ClaimClean },
		func(w *impl.ClaimWant) { w.Kind = impl.ClaimPermit },
		func(w *impl.ClaimWant) { w.Stuffs = nil },
		func(w *impl.ClaimWant) { w.Stuffs[1] = "ale" },
		func(w *impl.ClaimWant) { w.Stuffs[2] = "Water" },
		func(w *impl.ClaimWant) { w.Uses[0].Amount = 1 },
		func(w *impl.ClaimWant) { w.Uses[1].Amount = 0 },
		func(w *impl.ClaimWant) { w.Uses[2].Role = 4 },
		func(w *impl.ClaimWant) { w.Uses[2].Name = "keg" },
		func(w *impl.ClaimWant) { w.Opens[1] = "v1" },
		func(w *impl.ClaimWant) { w.Opens[1] = "v3" },
		func(w *impl.ClaimWant) { w.Shuts[0] = "" },
		func(w *impl.ClaimWant) { w.Uses, w.Opens, w.Shuts = nil, nil, nil },
	} {
		w := smallMove()
		f(&w)
		all = append(all, w)
	}
	return all
}

func TestWantsAreNotWrittenInto(t *testing.T) {
	for i, w := range spoiltWants() {
		checkWant(t, "spoilt "+strconv.Itoa(i), w, false)
	}
	all := append(spoiltWants(), impl.ClaimWant{})
	for _, w := range someWants() {
		all = append(all, w)
	}
	for _, from := range all {
		w := withRoom(from)
		want := withWhatIsBehind(w)
		first := impl.ClaimWantOk(w)
		checkWant(t, "a second time", w, first)
		checkWant(t, "without room", from, first)
		if !reflect.DeepEqual(withWhatIsBehind(w), want) {
			t.Errorf("the want became %+v", withWhatIsBehind(w))
		}
	}
}

func TestWantOfVeryLongLists(t *testing.T) {
	long := 100000
	var names []string
	for i := range long {
		names = append(names, strconv.Itoa(1000000+i))
	}
	for what, w := range map[string]impl.ClaimWant{
		"stuffs":               {Number: 1, Kind: impl.ClaimMove, Stuffs: names, Shuts: []string{"v"}},
		"uses":                 {Number: 1, Kind: impl.ClaimPermit, Uses: places(strings.Join(names, " "))},
		"opens":                {Number: 1, Kind: impl.ClaimMove, Stuffs: []string{"a"}, Opens: names},
		"shuts":                {Number: 1, Kind: impl.ClaimPermit, Shuts: names},
		"opens and shuts":      {Number: 1, Kind: impl.ClaimMove, Stuffs: []string{"a"}, Opens: names, Shuts: names},
		"stuffs without names": {Number: 1, Kind: impl.ClaimMove, Stuffs: make([]string, long), Shuts: []string{"v"}},
		"uses without names":   {Number: 1, Kind: impl.ClaimClean, Uses: make([]impl.ClaimUse, long)},
		"one valve for long":   {Number: 1, Kind: impl.ClaimPermit, Shuts: slices.Repeat([]string{"v"}, long)},
		"long names":           {Number: 1, Kind: impl.ClaimMove, Stuffs: []string{strings.Repeat("a", 1<<20)}, Opens: []string{strings.Repeat("a", 1<<20)}, Shuts: []string{strings.Repeat("a", 1<<20)}},
	} {
		checkWant(t, what, w, false)
	}
}

// What one call was given must not be seen in the next one, nor in one beside it.
func TestWantsKeepNothing(t *testing.T) {
	small, full, wrong := smallMove(), fullMove(), spoiltWants()
	var callers sync.WaitGroup
	for range 8 {
		callers.Go(func() {
			for i := range 100 {
				checkWant(t, "small", small, true)
				checkWant(t, "wrong", wrong[i%len(wrong)], false)
				checkWant(t, "full", full, true)
				checkWant(t, "nothing", impl.ClaimWant{}, false)
				checkWant(t, "a clean", cleanOf(7, "keg", "v1"), true)
				checkWant(t, "a clean that opens", impl.ClaimWant{Number: 7, Kind: impl.ClaimClean, Opens: []string{"v1"}}, false)
			}
		})
	}
	callers.Wait()
}
