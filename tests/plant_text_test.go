package tests

import (
	"cmp"
	"maps"
	"reflect"
	"regexp"
	"slices"
	"strconv"
	"strings"
	"sync"
	"testing"
	"unsafe"

	"loop.example/malthouse/impl"
)

const smallText = `stuff ale
stuff lye
stuff malt
stuff water
foe ale lye
foe ale malt
foe lye malt
joint j west
vessel keg 30 east
vessel tun 20 west
valve a j keg west
valve b j tun east
valve c keg tun east
`

func samePlant(a, b impl.Plant) bool {
	return slices.Equal(a.Stuffs, b.Stuffs) && slices.Equal(a.Foes, b.Foes) && slices.Equal(a.Places, b.Places) && slices.Equal(a.Valves, b.Valves)
}

func checkParsed(t *testing.T, text string, want impl.Plant) {
	t.Helper()
	got, fault := impl.PlantParse(text)
	if fault != (impl.PlantFault{}) || !samePlant(got, want) {
		t.Errorf("PlantParse(%q) = %+v, %+v; want %+v", text, got, fault, want)
	}
	checkValid(t, "what is read of "+strconv.Quote(text), got, true)
}

func checkFault(t *testing.T, text string, line int, code int) {
	t.Helper()
	got, fault := impl.PlantParse(text)
	if fault != (impl.PlantFault{Line: line, Code: code}) || !samePlant(got, impl.Plant{}) {
		t.Errorf("PlantParse(%q) = %+v, %+v; want nothing, line %d code %d", text, got, fault, line, code)
	}
}

// checkBehind holds what is told of a line behind a text against a code, 0 being none.
func checkBehind(t *testing.T, text string, line string, code int) {
	t.Helper()
	if code != 0 {
		checkFault(t, text+line, strings.Count(text, "\n")+1, code)
	} else if _, fault := impl.PlantParse(text + line); fault != (impl.PlantFault{}) {
		t.Errorf("%q behind %q has the fault %+v", line, text, fault)
	}
}

func TestPrintOfAPlant(t *testing.T) {
	if got := impl.PlantPrint(smallPlant()); got != smallText {
		t.Errorf("PlantPrint = %q", got)
	}
	for what, want := range map[string]string{
		"empty":              "",
		"empty lists":        "",
		"stuffs alone":       "stuff ale\n",
		"places alone":       "joint j west\nvessel keg 30 east\nvessel tun 20 west\n",
		"one name for all":   "stuff x\njoint x x\njoint y x\nvalve x x y x\n",
		"valve ends go back": "joint j west\nvessel keg 30 east\nvessel tun 20 west\nvalve a keg tun w\nvalve b j keg w\n",
	} {
		if got := impl.PlantPrint(someValid()[what]); got != want {
			t.Errorf("%s: PlantPrint = %q; want %q", what, got, want)
		}
	}
}

func TestPrintOfCaps(t *testing.T) {
	for most, want := range map[int]string{0: "joint a w\n", 1: "vessel a 1 w\n", 9: "vessel a 9 w\n", 10: "vessel a 10 w\n", impl.PlantMaxCap: "vessel a 1000 w\n", -1: "", impl.PlantMaxCap + 1: ""} {
		p := impl.Plant{Places: []impl.PlantPlace{{Name: "a", Cap: most, Station: "w"}}}
		if got := impl.PlantPrint(p); got != want {
			t.Errorf("PlantPrint of a place of %d = %q; want %q", most, got, want)
		}
	}
}

func TestPrintOfPlantsThatAreNotValid(t *testing.T) {
	for i, p := range spoilt() {
		if got := impl.PlantPrint(p); got != "" {
			t.Errorf("plant %d: PlantPrint = %q", i, got)
		}
	}
	for _, text := range []string{"", "A", "abcdefghi", "a b", "a\nstuff b", "#"} {
		for what, p := range named(text) {
			if got := impl.PlantPrint(p); got != "" {
				t.Errorf("%s %q: PlantPrint = %q", what, text, got)
			}
		}
	}
}

// Promise 2.
func TestParseOfPrintIsThePlant(t *testing.T) {
	for _, p := range someValid() {
		checkParsed(t, impl.PlantPrint(p), p)
	}
	for _, name := range []string{"a", "-", "0", "--------", "abcdefgh", "stuff", "1000"} {
		for _, p := range named(name) {
			checkParsed(t, impl.PlantPrint(p), p)
		}
	}
	for _, most := range []int{1, 2, 9, 10, 11, 99, 100, 101, 999, impl.PlantMaxCap} {
		p := smallPlant()
		p.Places[2].Cap = most
		checkParsed(t, impl.PlantPrint(p), p)
	}
	longest := fullPlant()
	for i := range longest.Places {
		longest.Places[i].Name = "abcdef" + strconv.Itoa(10+i)
		longest.Places[i].Station = "stations"
		longest.Places[i].Cap = impl.PlantMaxCap
	}
	for i := range longest.Valves {
		longest.Valves[i] = impl.PlantValve{Name: "valve-" + strconv.Itoa(10+i), A: "abcdef10", B: "abcdef23", Station: "stations"}
	}
	checkParsed(t, impl.PlantPrint(longest), longest)
}

func TestParseOfEachKindOfLine(t *testing.T) {
	checkParsed(t, "stuff ale", impl.Plant{Stuffs: []string{"ale"}})
	checkParsed(t, "vessel keg 40 east", impl.Plant{Places: []impl.PlantPlace{{Name: "keg", Cap: 40, Station: "east"}}})
	checkParsed(t, "joint j east", impl.Plant{Places: []impl.PlantPlace{{Name: "j", Station: "east"}}})
	ends := []impl.PlantPlace{{Name: "j", Station: "w"}, {Name: "k", Station: "e"}}
	for _, valve := range []string{"valve v j k n", "valve v k j n"} {
		checkParsed(t, "joint j w\njoint k e\n"+valve, impl.Plant{Places: ends, Valves: []impl.PlantValve{{Name: "v", A: "j", B: "k", Station: "n"}}})
	}
	for _, foe := range []string{"foe a b", "foe b a"} {
		checkParsed(t, "stuff a\nstuff b\n"+foe, impl.Plant{Stuffs: letters(2), Foes: []impl.PlantFoe{{A: "a", B: "b"}}})
	}
}

// turnedAround is a text of the same plant with the lines of each kind the other way round, and so the names of foes and the ends of valves.
func turnedAround(text string, kinds ...string) string {
	lines := strings.Split(strings.TrimSuffix(text, "\n"), "\n")
	slices.Reverse(lines)
	var turned []string
	for _, kind := range kinds {
		for _, line := range lines {
			words := strings.Split(line, " ")
			switch {
			case words[0] != kind:
				continue
			case kind == "foe":
				slices.Reverse(words[1:])
			case kind == "valve":
				slices.Reverse(words[2:4])
			}
			turned = append(turned, strings.Join(words, " "))
		}
	}
	return strings.Join(turned, "\n")
}

func TestParseOfLinesInAnyOrder(t *testing.T) {
	for _, p := range []impl.Plant{smallPlant(), fullPlant()} {
		text := impl.PlantPrint(p)
		for _, kinds := range [][]string{
			{"stuff", "foe", "vessel", "joint", "valve"},
			{"stuff", "vessel", "joint", "foe", "valve"},
			{"vessel", "joint", "stuff", "valve", "foe"},
			{"joint", "vessel", "valve", "stuff", "foe"},
		} {
			checkParsed(t, turnedAround(text, kinds...), p)
		}
	}
	mixed := "vessel tun 20 west\nstuff water\nstuff lye\nvessel keg 30 east\nvalve c tun keg east\nstuff ale\nfoe lye ale\njoint j west\nvalve b tun j east\nstuff malt\nfoe malt lye\nvalve a keg j west\nfoe malt ale"
	checkParsed(t, mixed, smallPlant())
}

func TestLinesThatCountForNothing(t *testing.T) {
	for _, text := range []string{"", "\n", "\n\n\n", " ", "   \n  ", "#", "# stuff ale\n", "#\x00\xff\n#\n", "  # what\n\n"} {
		checkParsed(t, text, impl.Plant{})
	}
	ale := impl.Plant{Stuffs: []string{"ale"}}
	for _, text := range []string{"stuff ale", "stuff ale\n", "stuff ale\n\n", "\nstuff ale", "  stuff   ale  \n", "stuff ale#lye", "stuff ale # \x01 é\n", "# x\n\n stuff ale\n# stuff lye\n  ", "\n\n\nstuff ale\n\n\n"} {
		checkParsed(t, text, ale)
	}
	checkParsed(t, strings.ReplaceAll(smallText, "\n", " # of use\n\n  \n"), smallPlant())
	checkParsed(t, strings.TrimSuffix(smallText, "\n"), smallPlant())
	checkParsed(t, strings.ReplaceAll(smallText, " ", "    "), smallPlant())
	checkFault(t, "\n# x\n \nwhat\n", 4, impl.PlantNoKey)
	checkFault(t, "stuff ale\n\n\nstuff ale", 4, impl.PlantAgain)
	checkFault(t, "\n\x01", 2, impl.PlantBadWord)
}

func TestWordsThatAreNone(t *testing.T) {
	for _, line := range []string{"\x00", "a\x01", "stuff ale\x7f", "stuff é", "stuff\tbeer", "stuff beer\r\n", "\xff", "stuff \xc3", strings.Repeat("w", impl.PlantMaxWord+1), "stuff " + strings.Repeat("w", impl.PlantMaxWord+1), strings.Join(letters(impl.PlantMaxWords+1), " "), "stuff beer \x01# x"} {
		checkBehind(t, smallText, line, impl.PlantBadWord)
	}
}

func TestFirstWordsThatAreNone(t *testing.T) {
	for _, line := range []string{"what", "what a b c", "Stuff beer", "STUFF beer", "stuf beer", "stuffs beer", "foes ale water", "f", "ves", "vessels q 4 w", "joints q w", "valves v j keg w", "tap v j keg w", "place q 4 w", "stuff,", "-", "0", "ale", "beer stuff", "nil", strings.Repeat("w", impl.PlantMaxWord), strings.Join(letters(impl.PlantMaxWords), " ")} {
		checkBehind(t, smallText, line, impl.PlantNoKey)
	}
}

func TestTooFewAndTooManyWords(t *testing.T) {
	for line, words := range map[string]int{"stuff beer": 2, "foe ale water": 3, "vessel q 4 w": 4, "joint q w": 3, "valve v j keg w": 5} {
		all := strings.Fields(line + " " + strings.Join(letters(impl.PlantMaxWords-words), " "))
		checkBehind(t, smallText, line, 0)
		for n := 1; n <= impl.PlantMaxWords; n++ {
			if n != words {
				checkBehind(t, smallText, strings.Join(all[:n], " "), impl.PlantBadArgs)
			}
		}
	}
}

// besides is lines that a text can stand in where a name is asked for, by what comes of it if it is one.
func besides(text string) map[string]int {
	return map[string]int{
		"stuff " + text:                 0,
		"foe ale " + text:               impl.PlantNoSuch,
		"foe " + text + " ale":          impl.PlantNoSuch,
		"vessel " + text + " 4 w":       0,
		"vessel q 4 " + text:            0,
		"joint " + text + " w":          0,
		"joint q " + text:               0,
		"valve " + text + " j keg w":    0,
		"valve v " + text + " keg w":    impl.PlantNoSuch,
		"valve v keg " + text + " w":    impl.PlantNoSuch,
		"valve v keg j " + text:         0,
		"valve " + text + " none keg w": impl.PlantNoSuch,
	}
}

func TestNamesOfLines(t *testing.T) {
	for _, name := range []string{"x", "0", "-", "x-0", "--------", "abcdefgh", "01234567", "good", "stuff"} {
		for line, code := range besides(name) {
			checkBehind(t, smallText, line, code)
		}
	}
	for _, name := range []string{"", "abcdefghi", "---------", "X", "Keg", "a_b", "a.b", "a/b", "x:", "`", "{", "~", "abcdefgH", strings.Repeat("a", impl.PlantMaxWord)} {
		for line := range besides(name) {
			checkBehind(t, smallText, line, impl.PlantBadArgs)
		}
	}
	for c := 33; c <= 126; c++ {
		b := string([]byte{byte(c)})
		for line, code := range besides("x" + b) {
			switch {
			case c == '#':
				continue
			case !(c >= 'a' && c <= 'z' || c >= '0' && c <= '9' || c == '-'):
				code = impl.PlantBadArgs
			}
			checkBehind(t, smallText, line, code)
		}
	}
}

func TestCapsOfLines(t *testing.T) {
	for most := range 10000 {
		code := 0
		if most < 1 || most > impl.PlantMaxCap {
			code = impl.PlantBadArgs
		}
		checkBehind(t, "", "vessel q "+strconv.Itoa(most)+" w", code)
	}
	for _, most := range []string{"10000", "99999", "00000", "01000", "00001", "04", "00", "01", "0001", "010", "+4", "-4", "-0", "+0", "+1000", "4.", "4.0", "1e2", "1_0", "0x4", "0b1", "a", "4a", "a4", "-", "", "18446744073709551617", "9223372036854775808", strings.Repeat("0", impl.PlantMaxWord), strings.Repeat("9", impl.PlantMaxWord)} {
		checkBehind(t, smallText, "vessel q "+most+" w", impl.PlantBadArgs)
	}
	for c := 33; c <= 126; c++ {
		digit := c >= '0' && c <= '9'
		b := string([]byte{byte(c)})
		for text, ok := range map[string]bool{b: digit && c != '0', "1" + b: digit, b + "1": digit && c != '0', "1" + b + "1": digit} {
			code := 0
			if !ok {
				code = impl.PlantBadArgs
			}
			checkBehind(t, "", "vessel q "+text+" w", code)
		}
	}
	checkParsed(t, "vessel a 1 w\nvessel b 1000 w", impl.Plant{Places: []impl.PlantPlace{{Name: "a", Cap: 1, Station: "w"}, {Name: "b", Cap: 1000, Station: "w"}}})
}

func TestTwoThatMustDiffer(t *testing.T) {
	for _, line := range []string{"foe ale ale", "foe none none", "valve v j j w", "valve v none none w", "valve a j j w"} {
		checkBehind(t, smallText, line, impl.PlantBadArgs)
	}
	for _, line := range []string{"foe ale water", "valve v j keg w", "valve j j keg j", "vessel q 4 q", "joint q q"} {
		checkBehind(t, smallText, line, 0)
	}
}

func TestWhatIsThereAlready(t *testing.T) {
	for _, line := range []string{"stuff ale", "stuff water", "foe ale lye", "foe lye ale", "foe malt lye", "vessel keg 30 east", "vessel keg 1 w", "vessel j 4 w", "joint j west", "joint j w", "joint tun w", "valve a j keg west", "valve a keg tun w", "valve c tun j w"} {
		checkBehind(t, smallText, line, impl.PlantAgain)
	}
	for _, line := range []string{"stuff j", "stuff keg", "stuff a", "stuff west", "joint ale w", "vessel a 4 w", "vessel east 4 w", "valve ale j keg w", "valve keg j keg w", "valve j j keg w", "valve d j keg west"} {
		checkBehind(t, smallText, line, 0)
	}
}

func TestWhatWasNotSaidAhead(t *testing.T) {
	for _, line := range []string{"foe ale none", "foe none ale", "foe none other", "foe ale keg", "foe j keg", "foe a b", "valve v j none w", "valve v none keg w", "valve v none other w", "valve v j ale w", "valve v a b w", "valve v ale lye w", "valve v j west w"} {
		checkBehind(t, smallText, line, impl.PlantNoSuch)
	}
	checkFault(t, "foe a b\nstuff a\nstuff b\n", 1, impl.PlantNoSuch)
	checkFault(t, "stuff a\nfoe a b\nstuff b\n", 2, impl.PlantNoSuch)
	checkFault(t, "valve v a b w\njoint a w\njoint b w\n", 1, impl.PlantNoSuch)
	checkFault(t, "joint a w\nvalve v b a w\njoint b w\n", 2, impl.PlantNoSuch)
}

func TestOneTooManyOfEach(t *testing.T) {
	full := impl.PlantPrint(fullPlant())
	for _, line := range []string{"stuff z", "foe g h", "joint z w", "vessel z 4 w", "valve z p10 p11 w"} {
		checkBehind(t, full, line, impl.PlantTooMany)
	}
	lines := strings.SplitAfter(full, "\n")
	for from, behind := range map[string]string{"stuff h": "stuff z", "foe b g": "foe g h", "joint p22": "vessel z 4 w", "vessel p23": "joint z w", "valve v27": "valve z p10 p11 w"} {
		less := slices.DeleteFunc(slices.Clone(lines), func(line string) bool { return strings.HasPrefix(line, from) })
		if from == "stuff h" {
			less = slices.DeleteFunc(less, func(line string) bool { return strings.HasPrefix(line, "foe ") })
		}
		if from == "joint p22" || from == "vessel p23" {
			less = slices.DeleteFunc(less, func(line string) bool { return strings.HasPrefix(line, "valve ") })
		}
		if len(less) == len(lines) {
			t.Fatalf("no line of the full plant begins with %q", from)
		}
		checkBehind(t, strings.Join(less, ""), behind, 0)
		checkBehind(t, strings.Join(less, "")+behind+"\n", behind+"#", impl.PlantAgain)
	}
}

func TestTextsAsLongAsTheyMayBe(t *testing.T) {
	remark := func(text string, size int) string {
		return text + "#" + strings.Repeat("x", size-len(text)-1)
	}
	checkParsed(t, remark(smallText, impl.PlantMaxText), smallPlant())
	checkParsed(t, remark(smallText, impl.PlantMaxText-1)+"\n", smallPlant())
	checkParsed(t, strings.Repeat(" ", impl.PlantMaxText), impl.Plant{})
	checkFault(t, remark(smallText+"what\n", impl.PlantMaxText), 14, impl.PlantNoKey)
	checkFault(t, strings.Repeat("w", impl.PlantMaxText), 1, impl.PlantBadWord)
	for _, text := range []string{remark(smallText, impl.PlantMaxText+1), remark(smallText, impl.PlantMaxText) + "\n", remark("what\n", impl.PlantMaxText+1), remark("\x01\n", impl.PlantMaxText+1), strings.Repeat(" ", impl.PlantMaxText+1), strings.Repeat("w", impl.PlantMaxText+1), strings.Repeat("\n", impl.PlantMaxText+1), strings.Repeat("é", impl.PlantMaxText/2) + "x", strings.Repeat("stuff ale\n", 1<<20)} {
		if _, fault := impl.PlantParse(text); fault != (impl.PlantFault{Code: impl.PlantTooLong}) {
			t.Errorf("a text of %d bytes has the fault %+v", len(text), fault)
		}
	}
	checkFault(t, strings.Repeat("é", impl.PlantMaxText/2), 1, impl.PlantBadWord)
}

func TestTextsOfAsManyLinesAsTheyMayBe(t *testing.T) {
	ale := impl.Plant{Stuffs: []string{"ale"}}
	ahead := strings.Repeat("\n", impl.PlantMaxLines-1)
	for _, text := range []string{ahead + "stuff ale", ahead + "stuff ale\n", "stuff ale\n" + ahead, "stuff ale" + ahead + " #"} {
		checkParsed(t, text, ale)
	}
	checkParsed(t, ahead+"\n", impl.Plant{})
	checkParsed(t, strings.Repeat("#\n", impl.PlantMaxLines), impl.Plant{})
	checkFault(t, ahead+"what", impl.PlantMaxLines, impl.PlantNoKey)
	checkFault(t, ahead+"\x01\n", impl.PlantMaxLines, impl.PlantBadWord)
	for _, text := range []string{ahead + "\n\n", ahead + "\n ", ahead + "\n#", ahead + "\nstuff ale", "stuff ale\n" + ahead + "\n", "what\n" + ahead + "\n", "\x01\n" + ahead + " ", ahead + "\nwhat", strings.Repeat("#\n", impl.PlantMaxLines+1), strings.Repeat("stuff ale\n", impl.PlantMaxLines+1)} {
		checkFault(t, text, 0, impl.PlantTooLong)
	}
}

func TestLinesOfTwoFaults(t *testing.T) {
	full := impl.PlantPrint(fullPlant())
	for line, code := range map[string]int{
		"what\x01": impl.PlantBadWord, "what \x01": impl.PlantBadWord,
		"stuff \x01": impl.PlantBadWord, "stuff a b \x01": impl.PlantBadWord, "stuff a\x01": impl.PlantBadWord,
		"valve v10 p10 none w \x01": impl.PlantBadWord, "foe a none \x01": impl.PlantBadWord,
		"stuff z \x01": impl.PlantBadWord, "stuff " + strings.Join(letters(impl.PlantMaxWords), " "): impl.PlantBadWord,
		"Stuff": impl.PlantNoKey, "what a": impl.PlantNoKey, "stuf a b c": impl.PlantNoKey, "p10 a": impl.PlantNoKey,
		"stuff a a": impl.PlantBadArgs, "vessel p10 0 w": impl.PlantBadArgs, "vessel p10 4 W": impl.PlantBadArgs, "joint p10 w w": impl.PlantBadArgs,
		"valve v10 p10 p10 w": impl.PlantBadArgs, "valve v10 p10 p11": impl.PlantBadArgs, "foe a b c": impl.PlantBadArgs,
		"foe none none": impl.PlantBadArgs, "foe none A": impl.PlantBadArgs, "foe none": impl.PlantBadArgs,
		"valve z none none w": impl.PlantBadArgs, "valve z none p10 W": impl.PlantBadArgs, "valve v10 none none w": impl.PlantBadArgs, "valve Z none p10 w": impl.PlantBadArgs,
		"stuff Z": impl.PlantBadArgs, "foe g g": impl.PlantBadArgs, "joint Z w": impl.PlantBadArgs, "vessel z 1001 w": impl.PlantBadArgs, "valve z p10 p10 w": impl.PlantBadArgs,
		"valve v10 p10 none w": impl.PlantAgain, "valve v10 none other w": impl.PlantAgain,
		"stuff a": impl.PlantAgain, "foe b a": impl.PlantAgain, "joint p10 w": impl.PlantAgain, "vessel p10 4 w": impl.PlantAgain, "valve v10 p10 p11 w": impl.PlantAgain,
		"foe a none": impl.PlantNoSuch, "foe none a": impl.PlantNoSuch, "valve z none p10 w": impl.PlantNoSuch, "valve z p10 none w": impl.PlantNoSuch,
	} {
		checkBehind(t, full, line, code)
	}
}

func TestTwoLinesWithAFault(t *testing.T) {
	wrong := map[string]int{"\x01": impl.PlantBadWord, "what": impl.PlantNoKey, "stuff A": impl.PlantBadArgs, "stuff a": impl.PlantAgain, "foe a z": impl.PlantNoSuch, "stuff z": impl.PlantTooMany}
	full := impl.PlantPrint(fullPlant())
	lines := strings.Count(full, "\n")
	for first, code := range wrong {
		for second := range wrong {
			checkFault(t, full+first+"\n"+second, lines+1, code)
			checkFault(t, full+"\n"+first+"\n\n"+second+"\n", lines+2, code)
		}
	}
}

// forms is the table of lines, each as the pattern of one whose words have one space between.
var forms = map[string]*regexp.Regexp{
	"stuff":  regexp.MustCompile(`^stuff ([a-z0-9-]{1,8})$`),
	"foe":    regexp.MustCompile(`^foe ([a-z0-9-]{1,8}) ([a-z0-9-]{1,8})$`),
	"vessel": regexp.MustCompile(`^vessel ([a-z0-9-]{1,8}) ([1-9][0-9]{0,2}|1000) ([a-z0-9-]{1,8})$`),
	"joint":  regexp.MustCompile(`^joint ([a-z0-9-]{1,8}) ([a-z0-9-]{1,8})$`),
	"valve":  regexp.MustCompile(`^valve ([a-z0-9-]{1,8}) ([a-z0-9-]{1,8}) ([a-z0-9-]{1,8}) ([a-z0-9-]{1,8})$`),
}

// saidAhead is what the lines ahead said, by names.
type saidAhead struct {
	stuffs map[string]bool
	foes   map[impl.PlantFoe]bool
	places map[string]impl.PlantPlace
	valves map[string]impl.PlantValve
}

// codes is whether a line that is of its form has each of the codes from PlantAgain to PlantTooMany, and what it would say then.
func (s saidAhead) codes(kind string, part []string) (codes [3]bool, say func()) {
	switch kind {
	case "stuff":
		return [3]bool{s.stuffs[part[1]], false, len(s.stuffs) == 8}, func() { s.stuffs[part[1]] = true }
	case "foe":
		foe, back := impl.PlantFoe{A: part[1], B: part[2]}, impl.PlantFoe{A: part[2], B: part[1]}
		if foe.B < foe.A {
			foe, back = back, foe
		}
		return [3]bool{s.foes[foe] || s.foes[back], !s.stuffs[foe.A] || !s.stuffs[foe.B], len(s.foes) == 12}, func() { s.foes[foe] = true }
	case "valve":
		_, again := s.valves[part[1]]
		_, a := s.places[part[2]]
		_, b := s.places[part[3]]
		ends := []string{part[2], part[3]}
		slices.Sort(ends)
		valve := impl.PlantValve{Name: part[1], A: ends[0], B: ends[1], Station: part[4]}
		return [3]bool{again, !a || !b, len(s.valves) == 18}, func() { s.valves[part[1]] = valve }
	}
	most := 0
	if kind == "vessel" {
		most, _ = strconv.Atoi(part[2])
	}
	_, again := s.places[part[1]]
	place := impl.PlantPlace{Name: part[1], Cap: most, Station: part[len(part)-1]}
	return [3]bool{again, false, len(s.places) == 14}, func() { s.places[part[1]] = place }
}

// code is the code of a line, which says what it says if that is 0.
func (s saidAhead) code(line string) int {
	words, ok := wordsByDefinition(line)
	if !ok {
		return impl.PlantBadWord
	}
	if len(words) == 0 {
		return 0
	}
	form, ok := forms[words[0]]
	if !ok {
		return impl.PlantNoKey
	}
	part := form.FindStringSubmatch(strings.Join(words, " "))
	if part == nil || words[0] == "foe" && part[1] == part[2] || words[0] == "valve" && part[2] == part[3] {
		return impl.PlantBadArgs
	}
	codes, say := s.codes(words[0], part)
	for i, has := range codes {
		if has {
			return impl.PlantAgain + i
		}
	}
	say()
	return 0
}

// plantByDefinition reads a text that is not too long.
func plantByDefinition(text string) (impl.Plant, impl.PlantFault) {
	s := saidAhead{map[string]bool{}, map[impl.PlantFoe]bool{}, map[string]impl.PlantPlace{}, map[string]impl.PlantValve{}}
	lines := strings.Split(text, "\n")
	for i, line := range lines {
		if code := s.code(line); code != 0 {
			return impl.Plant{}, impl.PlantFault{Line: i + 1, Code: code}
		}
	}
	return impl.Plant{
		Stuffs: slices.Sorted(maps.Keys(s.stuffs)),
		Foes: slices.SortedFunc(maps.Keys(s.foes), func(a, b impl.PlantFoe) int {
			return cmp.Or(cmp.Compare(a.A, b.A), cmp.Compare(a.B, b.B))
		}),
		Places: slices.SortedFunc(maps.Values(s.places), func(a, b impl.PlantPlace) int { return cmp.Compare(a.Name, b.Name) }),
		Valves: slices.SortedFunc(maps.Values(s.valves), func(a, b impl.PlantValve) int { return cmp.Compare(a.Name, b.Name) }),
	}, impl.PlantFault{}
}

// checkByDefinition holds a text against the definition, and against promise 2.
func checkByDefinition(t *testing.T, text string) {
	t.Helper()
	want, fault := plantByDefinition(text)
	if fault.Code != 0 {
		checkFault(t, text, fault.Line, fault.Code)
		ahead := strings.SplitAfter(text, "\n")[:fault.Line-1]
		if _, none := impl.PlantParse(strings.Join(ahead, "")); none.Code != 0 {
			t.Errorf("%q has the fault %+v; the lines ahead have %+v", text, fault, none)
		}
		return
	}
	checkParsed(t, text, want)
	checkParsed(t, impl.PlantPrint(want), want)
}

func TestParseOfAllShortTexts(t *testing.T) {
	lines := []string{"\n", "stuff b\n", "stuff a\n", "foe a b\n", "foe b a\n", "joint j w\n", "vessel j 3 e\n", "vessel h 40 w\n", "valve v j h w\n", "valve u h j e\n", "valve v j j w\n", "what\n", "foe b\x01\n"}
	eachLine(lines, 4, func(text string) { checkByDefinition(t, text) })
}

func TestParseOfLinesBehindPlants(t *testing.T) {
	full := impl.PlantPrint(fullPlant())
	lines := []string{
		"", "# x", " ", "\x01", "what", "stuff", "stuff a", "stuff z", "stuff y", "stuff Z", "stuff a b", "foe a b", "foe b a", "foe g h", "foe h g", "foe f h", "foe a z", "foe z y", "foe z z", "foe",
		"joint z w", "joint y w", "joint p10 w", "joint z", "vessel z 4 w", "vessel p10 4 w", "vessel y 0 w", "vessel y 1000 w", "vessel y 1001 w", "vessel p10 01 w",
		"valve z p10 p11 w", "valve z p11 p10 w", "valve v10 p10 p11 w", "valve v10 y z w", "valve z y z w", "valve y z z w", "valve y p10 z w", "valve y p10 p23",
	}
	stuffs := impl.PlantMaxStuffs
	foes := stuffs + impl.PlantMaxFoes
	places := foes + impl.PlantMaxPlaces
	valves := places + impl.PlantMaxValves
	for _, cut := range []int{0, stuffs - 1, stuffs, foes - 1, foes, places - 1, places, valves - 1, valves} {
		ahead := strings.Join(strings.SplitAfter(full, "\n")[:cut], "")
		for _, first := range lines {
			for _, second := range lines {
				checkByDefinition(t, ahead+first+"\n"+second)
			}
		}
	}
}

func TestParseOfTextsThatLoseALine(t *testing.T) {
	for _, p := range someValid() {
		lines := strings.SplitAfter(impl.PlantPrint(p), "\n")
		for i := range lines {
			checkByDefinition(t, strings.Join(slices.Delete(slices.Clone(lines), i, i+1), ""))
			for j := range lines {
				moved := slices.Clone(lines)
				moved[i], moved[j] = moved[j], moved[i]
				checkByDefinition(t, strings.Join(moved, ""))
			}
		}
	}
}

// within says whether some bytes lie in others.
func within(part string, whole string) bool {
	at, from := uintptr(unsafe.Pointer(unsafe.StringData(part))), uintptr(unsafe.Pointer(unsafe.StringData(whole)))
	return part != "" && at >= from && at < from+uintptr(len(whole))
}

func textsOf(p impl.Plant) []string {
	texts := slices.Clone(p.Stuffs)
	for _, f := range p.Foes {
		texts = append(texts, f.A, f.B)
	}
	for _, x := range p.Places {
		texts = append(texts, x.Name, x.Station)
	}
	for _, v := range p.Valves {
		texts = append(texts, v.Name, v.A, v.B, v.Station)
	}
	return texts
}

func wiped(p impl.Plant) {
	p = toTheEnd(p)
	clear(p.Stuffs)
	clear(p.Foes)
	clear(p.Places)
	clear(p.Valves)
}

func TestReadPlantsAreNewMemory(t *testing.T) {
	text := strings.Clone(smallText)
	first, _ := impl.PlantParse(text)
	second, _ := impl.PlantParse(text)
	for _, name := range textsOf(first) {
		if within(name, text) {
			t.Errorf("%q lies in the text", name)
		}
	}
	wiped(first)
	if !samePlant(second, smallPlant()) {
		t.Errorf("a second answer became %+v", second)
	}
	checkParsed(t, text, smallPlant())
	if text != smallText {
		t.Errorf("the text became %q", text)
	}
	p := impl.Plant{Stuffs: []string{strings.Clone("ale")}}
	printed := impl.PlantPrint(p)
	if within(p.Stuffs[0], printed) || within(printed, p.Stuffs[0]) {
		t.Error("what is printed lies in the plant")
	}
}

func TestPrintedPlantsAreNotWrittenInto(t *testing.T) {
	for _, from := range append(spoilt(), smallPlant(), fullPlant()) {
		p := roomyPlant(from)
		want := cloned(toTheEnd(p))
		first := impl.PlantPrint(p)
		if again := impl.PlantPrint(p); again != first || first != impl.PlantPrint(from) {
			t.Errorf("PlantPrint was %q and is %q", first, again)
		}
		if !reflect.DeepEqual(toTheEnd(p), want) {
			t.Errorf("the plant became %+v", toTheEnd(p))
		}
	}
}

func TestNothingIsKeptOfTexts(t *testing.T) {
	var all sync.WaitGroup
	for range 8 {
		all.Go(func() {
			for range 50 {
				checkParsed(t, smallText, smallPlant())
				checkFault(t, smallText+"what", 14, impl.PlantNoKey)
				checkParsed(t, "", impl.Plant{})
				checkFault(t, "stuff ale\nstuff ale", 2, impl.PlantAgain)
				checkParsed(t, "stuff ale", impl.Plant{Stuffs: []string{"ale"}})
				checkFault(t, strings.Repeat("\n", impl.PlantMaxLines+1), 0, impl.PlantTooLong)
			}
		})
	}
	all.Wait()
}

func FuzzPlantParse(f *testing.F) {
	f.Add(smallText)
	f.Add(impl.PlantPrint(fullPlant()))
	f.Add("stuff ale\n\nfoe ale ale # x\nvessel q 04 \xff")
	f.Fuzz(func(t *testing.T, text string) {
		if len(text) > impl.PlantMaxText || strings.Count(text, "\n") >= impl.PlantMaxLines {
			return
		}
		checkByDefinition(t, text)
	})
}
