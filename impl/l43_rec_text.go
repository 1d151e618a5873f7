package impl

// Limits of texts.
const (
	RecMaxText  = 4000
	RecMaxLines = 60
	RecMaxWord  = 24
)

// Faults of texts.
const (
	RecBadWord = 1
	RecBadLine = 2
	RecAgain   = 3
	RecNoSuch  = 4
	RecTooMany = 5
	RecNothing = 6
	RecTooLong = 7
)

// RecFault is what is wrong with a text, and in which line.
type RecFault struct {
	Line int
	Code int
}

// RecParse reads a recipe.
func RecParse(text string) ([]RecPhase, RecFault) {
	return nil, RecFault{}
}

// RecPrint writes a recipe.
func RecPrint(r []RecPhase) string {
	return ""
}
