package orbit_test

import (
	"strings"
	"testing"

	"orbit/orbit"
)

const (
	far    = "2000000000000000000"
	beyond = "2000000000000000001"
)

func checkPrint(t *testing.T, text, want string) {
	t.Helper()
	if plain, e, at := orbit.Print(text); plain != want || e != orbit.OK || at != 0 {
		t.Errorf("Print(%.80q) = %q, %d, %d, want %q, 0, 0", text, plain, e, at, want)
	}
}

func checkRefused(t *testing.T, text string, errno orbit.Errno, at int) {
	t.Helper()
	if plain, e, a := orbit.Print(text); plain != "" || e != errno || a != at {
		t.Errorf("Print(%.80q) = %q, %d, %d, want \"\", %d, %d", text, plain, e, a, errno, at)
	}
}

func TestP4Plain(t *testing.T) {
	for text, want := range map[string]string{
		"0 0 bo$2bo$3o!":                 "0 0 bo$2bo$3o!",
		"-3 07 3b 2o $ $$ o !":           "-3 7 3b2o3$o!",
		"5 5 3b$2b!":                     "0 0 !",
		"0 0!":                           "0 0 !",
		"7 8!":                           "0 0 !",
		"0 0o!":                          "0 0 o!",
		"-12 34b3o!":                     "-11 34 3o!",
		" \n-0\n-00\n3\no2o b$!\n ":      "0 0 5o!",
		"0000000000000000001 -001 o!":    "1 -1 o!",
		"3 4 2b$$2bo$b2o!":               "4 6 bo$2o!",
		"0 0 3bo$o!":                     "0 0 3bo$o!",
		"0 0 o$!":                        "0 0 o!",
		"0 0 o3b$o4$!":                   "0 0 o$o!",
		"0 0 obobo!":                     "0 0 obobo!",
		"0 0 o2bb3bo!":                   "0 0 o6bo!",
		"0 0 o\n12\n\n b 2 $ \n3 o ! \n": "0 0 o2$3o!",
		"0 0 oooo$$$o!":                  "0 0 4o3$o!",
		"0 0 2$3b5o!":                    "3 2 5o!",
	} {
		checkPrint(t, text, want)
	}
}

func TestP4LongRuns(t *testing.T) {
	for text, want := range map[string]string{
		"0 0 o9998bbo!":                "0 0 o9999bo!",
		"0 0 o9999bbo!":                "0 0 o9999bbo!",
		"0 0 o5000b5001bo!":            "0 0 o9999b2bo!",
		"0 0 o5000b9999b4999bo!":       "0 0 o9999b9999bo!",
		"0 0 o$9998$o!":                "0 0 o9999$o!",
		"0 0 o9999$$o!":                "0 0 o9999$$o!",
		"0 0 o9000$9000$o!":            "0 0 o9999$8001$o!",
		"0 0 o9000$9000$1998$o!":       "0 0 o9999$9999$o!",
		"0 0 9999b9999bo$o!":           "0 0 9999b9999bo$o!",
		"0 0 9999b9999b9999$9999$9o!":  "0 19998 9o!",
		"-9999 -9999 9999b9999$2o!":    "-9999 0 2o!",
		"-9999 -9999 9999$9999b2o$o!":  "-9999 0 9999b2o$o!",
		"-10000 0 9999bo9999bo9999bo!": "-1 0 o9999bo9999bo!",
	} {
		checkPrint(t, text, want)
	}
}

func TestP4WrongForm(t *testing.T) {
	for text, at := range map[string]int{
		// where a number must stand
		"x 0 !": 0, "- 0 !": 0, "-": 0, " -": 1, "-x": 0, "--1 0 !": 0, "!": 0,
		"+1 0 !": 0, "\t0 0 !": 0, "0\t0 !": 1, "0\r\n0 !": 1, "0 - 1!": 2,
		"0 -": 2, "0 --1 !": 2, "0 o!": 2, "0 !": 2, "0,0 !": 1, "0o!": 1,
		// no blank between the numbers
		"0-1 o!": 1, "0--1 o!": 1, "0-": 1, "-5-5!": 2,
		// too many digits
		"00000000000000000000 0 !": 0, "-00000000000000000000 0 !": 0,
		"\n-12345678901234567890 0 !": 1, "0 12345678901234567890 !": 2,
		"0 -123456789012345678901!": 2, "00000000000000000000": 0,
		"00000000000000000000x": 0,
		// where a run must stand
		"0 0 x!": 4, "0 0 -1o!": 4, "0 0-": 3, "0 0 O!": 4, "0 0 \x00!": 4,
		"0 0 o\t!": 5, "0 0 o\xff!": 5, "0 0 oé!": 5,
		// counts
		"0 0 3!": 5, "0 0 3 !": 6, "0 0 3 4o!": 6, "0 0 3 04o!": 6,
		"0 0 3 12345o!": 6, "0 0 3x": 5, "0 0 3-": 5, "0 0 0o!": 4,
		"0 0 03o!": 4, "0 0 o0!": 5, "0 0 0": 4, "0 0 o00003o!": 5,
		"0 0 10000o!": 4, "0 0 o12345o!": 5, "0 0 12345": 4, "0 0 12345x": 4,
		"0 0 12345 !": 4, "0 0 99999999999999999999999999o!": 4,
		// behind the end
		"0 0 o! o": 7, "0 0 o!!": 6, "0 0 ! \n\t": 7, "0 0 !12": 5, "0 0 !-": 5,
		"0 0 !\x00": 5,
	} {
		checkRefused(t, text, orbit.ErrForm, at)
	}
}

func TestP4EndsTooEarly(t *testing.T) {
	whole := " 12\n 34 3 o \n2$b9999o $ "
	for at := range len(whole) + 1 {
		checkRefused(t, whole[:at], orbit.ErrForm, at)
	}
}

func TestP4Digits(t *testing.T) {
	checkPrint(t, "0000000000000000007 -0000000000000000007 o!", "7 -7 o!")
	checkRefused(t, "00000000000000000007 0 o!", orbit.ErrForm, 0)
	checkRefused(t, "0 -00000000000000000007 o!", orbit.ErrForm, 2)
	checkPrint(t, "0 0 9999bo!", "9999 0 o!")
	checkPrint(t, "0 0 9999$o!", "0 9999 o!")
	checkRefused(t, "0 0 10000bo!", orbit.ErrForm, 4)
}

func TestP4Long(t *testing.T) {
	whole := "0 0 o!"
	checkPrint(t, whole+strings.Repeat(" ", 1500-len(whole)), "0 0 o!")
	checkRefused(t, whole+strings.Repeat(" ", 1501-len(whole)), orbit.ErrLong, 0)
	checkRefused(t, strings.Repeat("x", 1500), orbit.ErrForm, 0)
	checkRefused(t, strings.Repeat("x", 1501), orbit.ErrLong, 0)
	checkRefused(t, strings.Repeat(" ", 1500), orbit.ErrForm, 1500)
	checkRefused(t, strings.Repeat(" ", 1000000), orbit.ErrLong, 0)
}

func TestP4Far(t *testing.T) {
	for _, text := range []string{
		far + " " + far + " o!", "-" + far + " -" + far + " o!",
		far + " -" + far + " o!",
	} {
		checkPrint(t, text, text)
	}
	checkPrint(t, "1999999999999999999 0 2o!", "1999999999999999999 0 2o!")
	checkPrint(t, "1999999999999999999 0 bo!", far+" 0 o!")
	checkPrint(t, "0 1999999999999999999 $o!", "0 "+far+" o!")
	checkPrint(t, "-"+far+" -"+far+" 100o!", "-"+far+" -"+far+" 100o!")
	for _, text := range []string{
		beyond + " 0 !", "-" + beyond + " 0 !", "0 " + beyond + " !",
		"0 -" + beyond + " !", "9999999999999999999 0 !", "0 -9999999999999999999 o!",
		"9223372036854775808 0 o!", "-9223372036854775809 0 o!",
		"-" + beyond + " 0 bo!", "0 -" + beyond + " $o!",
		far + " 0 2o!", far + " 0 bo!", "0 " + far + " $o!",
		"1999999999999999999 0 3o!", "1999999999999999999 0 2bo$o!",
		"0 1999999999999999999 o2$o!",
	} {
		checkRefused(t, text, orbit.ErrFar, 0)
	}
}

// Only cells that live can be too far out, and the cell at the beginning.
func TestP4FarWithoutLife(t *testing.T) {
	checkPrint(t, far+" 0 9999b!", "0 0 !")
	checkPrint(t, far+" 0 9999b$o!", far+" 1 o!")
	checkPrint(t, "0 "+far+" o9999$9999b!", "0 "+far+" o!")
}

func TestP4Cells(t *testing.T) {
	checkPrint(t, "0 0 100o!", "0 0 100o!")
	checkPrint(t, "0 0 50o$50o!", "0 0 50o$50o!")
	checkPrint(t, "0 0 "+strings.Repeat("ob", 100)+"!", "0 0 "+strings.Repeat("ob", 99)+"o!")
	checkRefused(t, "0 0 101o!", orbit.ErrCells, 0)
	checkRefused(t, "0 0 50o$51o!", orbit.ErrCells, 0)
	checkRefused(t, "0 0 100o9999$9999bo!", orbit.ErrCells, 0)
	checkRefused(t, "0 0 "+strings.Repeat("9999o", 299)+"!", orbit.ErrCells, 0)
}

func TestP4ErrorsInOrder(t *testing.T) {
	checkRefused(t, strings.Repeat("9", 1501), orbit.ErrLong, 0)
	checkRefused(t, beyond+" 0 101o x", orbit.ErrForm, len(beyond)+8)
	checkRefused(t, "0 0 101o! x", orbit.ErrForm, 10)
	checkRefused(t, far+" 0 2o", orbit.ErrForm, len(far)+5)
	checkRefused(t, far+" 0 101o!", orbit.ErrFar, 0)
	checkRefused(t, "0 "+far+" 101o$o!", orbit.ErrFar, 0)
	checkRefused(t, beyond+" 0 101o!", orbit.ErrFar, 0)
	checkRefused(t, "0 1999999999999990000 101o9999$9999$o!", orbit.ErrFar, 0)
}
