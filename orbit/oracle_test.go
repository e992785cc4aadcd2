package orbit_test

import (
	"maps"
	"math/big"
	"regexp"
	"strconv"
	"strings"
	"testing"

	"orbit/orbit"
)

// The form of a pattern's text, written anew as regular expressions: of whole
// texts, and of all that a whole text can begin with.
const (
	formNumber = `-?[0-9]{1,19}`
	formCount  = `[1-9][0-9]{0,3}[ \n]*`
	formFirst  = `([ \n]*|[ \n]+` + formCount + `)[bo$]`
	formRuns   = `(` + formFirst + `([ \n]*(` + formCount + `)?[bo$])*)`
	formEnd    = `[ \n]*![ \n]*`
)

var (
	formWhole = regexp.MustCompile(`^[ \n]*` + formNumber + `[ \n]+` + formNumber + formRuns + `?` + formEnd + `$`)
	formBegun = longest(`^[ \n]*(-|` + formNumber + `([ \n]+(-|` + formNumber +
		`(` + formRuns + `?(` + formEnd + `|[ \n]*)|[ \n]+` + formCount + `|` + formRuns + `[ \n]*` + formCount + `)?)?)?)?`)
	formRun = regexp.MustCompile(`([0-9]*)[ \n]*([bo$])`)
	numbers = regexp.MustCompile(`-?[0-9]+`)

	plainForm = regexp.MustCompile(`^(0|-?[1-9][0-9]*) (0|-?[1-9][0-9]*) (([2-9]|[1-9][0-9]{1,3})?[bo$])+!$`)
	needless  = regexp.MustCompile(`b[0-9]*\$|b!|\$!`)
)

func longest(form string) *regexp.Regexp {
	re := regexp.MustCompile(form)
	re.Longest()
	return re
}

func isNumberByte(b byte) bool { return '0' <= b && b <= '9' }

// wrongPlace tells where a text that is none goes wrong: a digit too many
// and a lone '-' are told of the number or count that they belong to.
func wrongPlace(text string) int {
	at := len(formBegun.FindString(text))
	if at > 0 && text[at-1] == '-' {
		return at - 1
	}
	if at == len(text) || !isNumberByte(text[at]) {
		return at
	}
	for at > 0 && isNumberByte(text[at-1]) {
		at--
	}
	if at > 0 && text[at-1] == '-' {
		at--
	}
	return at
}

type place struct{ x, y string }

// livingCells reads a whole text slowly, with numbers of any size.
func livingCells(text string) map[place]int {
	fields := numbers.FindAllStringIndex(text, 2)
	start, _ := new(big.Int).SetString(text[fields[0][0]:fields[0][1]], 10)
	y, _ := new(big.Int).SetString(text[fields[1][0]:fields[1][1]], 10)
	x, one, cells := new(big.Int).Set(start), big.NewInt(1), map[place]int{}
	for _, run := range formRun.FindAllStringSubmatch(text[fields[1][1]:], -1) {
		count, err := strconv.Atoi(run[1])
		if err != nil {
			count = 1
		}
		for range count {
			switch run[2] {
			case "o":
				cells[place{x.String(), y.String()}] = 1
				x.Add(x, one)
			case "b":
				x.Add(x, one)
			case "$":
				x.Set(start)
				y.Add(y, one)
			}
		}
	}
	return cells
}

// isPlain holds a text against what the plain text may hold.
func isPlain(text string) bool {
	if text == "0 0 !" {
		return true
	}
	if !plainForm.MatchString(text) || needless.MatchString(text) {
		return false
	}
	before := []string{"", "", ""}
	for _, run := range formRun.FindAllStringSubmatch(text, -1) {
		if run[2] == before[2] && before[1] != "9999" {
			return false
		}
		before = run
	}
	return true
}

// isAtCorner tells whether the first row and the first column hold a cell.
func isAtCorner(text string, cells map[place]int) bool {
	fields := strings.Fields(text)
	atX, atY := len(cells) == 0, len(cells) == 0
	for c := range cells {
		atX = atX || c.x == fields[0]
		atY = atY || c.y == fields[1]
	}
	return atX && atY
}

func checkWhole(t *testing.T, text string) {
	t.Helper()
	plain, e, at := orbit.Print(text)
	if e != orbit.OK || at != 0 {
		t.Fatalf("Print(%q) = %q, %d, %d, want OK", text, plain, e, at)
	}
	cells := livingCells(text)
	if !isPlain(plain) || !isAtCorner(plain, cells) || !maps.Equal(cells, livingCells(plain)) {
		t.Fatalf("Print(%q) = %q is not its plain text", text, plain)
	}
	checkPrint(t, plain, plain)
}

// checkText holds what Print answers against the form and the slow reading.
func checkText(t *testing.T, text string) {
	t.Helper()
	if !formWhole.MatchString(text) {
		checkRefused(t, text, orbit.ErrForm, wrongPlace(text))
	} else if len(livingCells(text)) > 100 {
		checkRefused(t, text, orbit.ErrCells, 0)
	} else {
		checkWhole(t, text)
	}
	if t.Failed() {
		t.FailNow()
	}
}

func TestP4AllShortTexts(t *testing.T) {
	for text := range textsUpTo(" -01o!x", 6) {
		checkText(t, text)
	}
}

func TestP4AllShortRuns(t *testing.T) {
	for runs := range textsUpTo("\n02bo$!", 5) {
		checkText(t, "-1 2"+runs)
		checkText(t, "-1 2"+runs+"!")
	}
}

func TestP4AllShortPatterns(t *testing.T) {
	for runs := range textsUpTo("3bo$", 7) {
		checkText(t, "-4 -1 "+runs+"!")
	}
}

func TestP4DigitsAtTheirBounds(t *testing.T) {
	for _, begun := range []string{
		"000000000000000000", "-000000000000000000", "5 -000000000000000000",
		"5 5 112", "5 5 o112", "5 5o\n2b112",
	} {
		for rest := range textsUpTo(" -0o!", 5) {
			checkText(t, begun+rest)
		}
	}
}
