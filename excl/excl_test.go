package excl_test

import (
	"fmt"
	"regexp"
	"slices"
	"strconv"
	"strings"
	"testing"

	"cedilla/api"
	"cedilla/cpset"
	"cedilla/excl"
	"cedilla/fault"
)

func checkSet(t *testing.T, what, s string, want cpset.Set) {
	t.Helper()
	got, err := excl.Parse(s)
	if err != nil || !cpset.Same(got, want) {
		t.Errorf("%s: Parse(%.80q): %.200v, %v; want %.200v", what, s, got.Ranges(), err, want.Ranges())
	}
}

func checkWrong(t *testing.T, s string, want fault.Fault) {
	t.Helper()
	got, err := excl.Parse(s)
	f, isFault := err.(*fault.Fault)
	if got.Count() != 0 || !isFault || *f != want {
		t.Errorf("P10.1: Parse(%.80q): %.200v, %v; want %v", s, got.Ranges(), err, &want)
	}
}

// checkForm: a line that isn't as it should be is told with its note.
func checkForm(t *testing.T, s string, line int, note string) {
	t.Helper()
	checkWrong(t, s, fault.Fault{Code: api.ErrForm, Line: line, Note: note})
}

func TestParse(t *testing.T) {
	for s, want := range map[string][]rune{
		"":                           nil,
		"\n":                         nil,
		"\n\n\n":                     nil,
		"   ":                        nil,
		"#":                          nil,
		"# 0958":                     nil,
		"  # 0958\n#\n#0959":         nil,
		"0958 # QA\n\n0959":          {0x958, 0x959},
		"0958 # QA\n\n0959\n":        {0x958, 0x959},
		"0958":                       {0x958},
		"0958\n":                     {0x958},
		"0958\n\n":                   {0x958},
		"  0958  ":                   {0x958},
		"0958#QA":                    {0x958},
		"0958 # QA # 0959":           {0x958},
		"0958 # D800\n0959 # 0958":   {0x958, 0x959},
		"1D15E\n0959\n0958":          {0x958, 0x959, 0x1D15E},
		"0959\n# head\n   \n 0958":   {0x958, 0x959},
		"0000":                       {0},
		"10FFFF":                     {0x10FFFF},
		"0000\n10FFFF\nD7FF\nE000":   {0, 0xD7FF, 0xE000, 0x10FFFF},
		"FFFF\n10000\n0001":          {1, 0xFFFF, 0x10000},
		"0041\n0042\n0043\n0044 # D": {0x41, 0x42, 0x43, 0x44},
	} {
		checkSet(t, "P10.1", s, cpset.Chars(want...))
	}
}

func TestParseWrong(t *testing.T) {
	for note, lines := range map[string][]string{
		"code": {
			"x", "0958 0959", "0958;", ";", "0958 ; QA", "0958..0959", "958", "00958", "000958", "095g", "095a", "110000", "FFFFFF", "1000000", "U+0958", "0x0958", "-0958", "+0958", "09 58", "0958 x # QA", "0958 // QA", "9", "~", "<0958>", strings.Repeat("0", 1000),
		},
		"character": {"D800", "DFFF", "DABC", " DC00 # x", "DBFF#"},
		"twice":     {"0041", " 0041 # again", "0041#", "10FFFF"},
	} {
		for _, line := range lines {
			s := "# head\n0041\n\n10FFFF # last\n" + line
			checkForm(t, s, 5, note)
			checkForm(t, s+"\n", 5, note)
			checkForm(t, s+"\nx\nD800\n0041", 5, note)
			if note != "twice" {
				checkForm(t, line, 1, note)
			}
		}
	}
	checkForm(t, "0041\n0041", 2, "twice")
	checkForm(t, "0041\n0042\n0043\n0042\n0041\n0041", 4, "twice")
	checkForm(t, "0000\n0000", 2, "twice")
	// A surrogate is told as such each time: it is never one ahead.
	checkForm(t, "D800\nD800", 1, "character")
}

func TestSurrogates(t *testing.T) {
	for c := rune(0xD700); c < 0xE100; c++ {
		if s := fmt.Sprintf("0041\n%04X", c); c >= 0xD800 && c <= 0xDFFF {
			checkForm(t, s, 2, "character")
		} else {
			checkSet(t, "P10.1", s, cpset.Chars(0x41, c))
		}
	}
}

// TestLines: what is wrong with a line as such is told ahead of all else.
func TestLines(t *testing.T) {
	long := "0958 # " + strings.Repeat("x", 993)
	checkSet(t, "P10.1", long, cpset.Chars(0x958))
	checkWrong(t, long+"x", fault.Fault{Code: api.ErrBig, Line: 1, Note: "line"})
	checkWrong(t, "x\n"+long+"x\n\t", fault.Fault{Code: api.ErrBig, Line: 2, Note: "line"})
	checkWrong(t, "x\nD800\n\t0958\n"+long+"x", fault.Fault{Code: api.ErrForm, Line: 3, Note: "line"})
	checkWrong(t, "0958\r\n", fault.Fault{Code: api.ErrForm, Line: 1, Note: "line"})
	checkWrong(t, "0958 # \u0958", fault.Fault{Code: api.ErrForm, Line: 1, Note: "line"})
	checkWrong(t, "\xff", fault.Fault{Code: api.ErrForm, Line: 1, Note: "line"})
}

// TestManyLines: of these there may be more than a character table's.
func TestManyLines(t *testing.T) {
	checkSet(t, "P10.1", strings.Repeat("\n", 100000)+"0958", cpset.Chars(0x958))
	checkSet(t, "P10.1", excl.Text(cpset.All()), cpset.All())
	checkForm(t, excl.Text(cpset.All())+"0958", cpset.All().Count()+1, "twice")
	falling := strings.Split(strings.TrimSpace(excl.Text(cpset.All())), "\n")
	slices.Reverse(falling)
	checkSet(t, "P10.1", strings.Join(falling, "\n"), cpset.All())
}

// sets are those that are gone there and back with.
func sets() map[string]cpset.Set {
	spread, _ := cpset.Of(cpset.Range{From: 0, To: 0x30}, cpset.Range{From: 0xD700, To: 0xE100}, cpset.Range{From: 0xFFF0, To: 0x10010}, cpset.Range{From: 0x10FFF0, To: 0x10FFFF})
	var thirds []rune
	for c := rune(0); c <= 0x10FFFF; c += 3 {
		thirds = append(thirds, c)
	}
	return map[string]cpset.Set{
		"none":          {},
		"one":           cpset.Chars(0x958),
		"the least":     cpset.Chars(0),
		"the greatest":  cpset.Chars(0x10FFFF),
		"the published": cpset.Chars(0x958, 0x959, 0x2ADC, 0xFB1D, 0xFB1F, 0x1D15E),
		"spread":        spread,
		"all but these": spread.Not(),
		"thirds":        cpset.Chars(thirds...),
		"all":           cpset.All(),
	}
}

func TestText(t *testing.T) {
	for what, s := range sets() {
		var want strings.Builder
		for _, c := range s.Chars() {
			fmt.Fprintf(&want, "%04X\n", c)
		}
		if got := excl.Text(s); got != want.String() {
			t.Errorf("P10.2: Text of %s: %.80q, want %.80q", what, got, want.String())
		}
	}
	if got := excl.Text(cpset.Chars(0x1D15E, 0x959, 0x958, 0x959, 0xD800, -1)); got != "0958\n0959\n1D15E\n" {
		t.Errorf("P10.2: Text: %q", got)
	}
}

func TestThereAndBack(t *testing.T) {
	for what, s := range sets() {
		text := excl.Text(s)
		checkSet(t, "P10.2: "+what, text, s)
		checkSet(t, "P10.2: "+what, strings.ReplaceAll(text, "\n", " # a note\n\n"), s)
		if back, _ := excl.Parse(text); excl.Text(back) != text {
			t.Errorf("P10.2: %s: another text", what)
		}
	}
}

// The forms of a line, and of the code in one.
var (
	lineForm = regexp.MustCompile(`^[ -~]*$`)
	saidForm = regexp.MustCompile(`^ *(?:([0-9A-F]{4}|[1-9A-F][0-9A-F]{4}|10[0-9A-F]{4}) *)?(?:#.*)?$`)
)

// plainParse answers what Parse should, each line held against all ahead.
func plainParse(s string) (cpset.Set, fault.Fault) {
	var lines []string
	if s != "" {
		lines = strings.Split(strings.TrimSuffix(s, "\n"), "\n")
	}
	for i, line := range lines {
		if len(line) > 1000 {
			return cpset.Set{}, fault.Fault{Code: api.ErrBig, Line: i + 1, Note: "line"}
		}
		if !lineForm.MatchString(line) {
			return cpset.Set{}, fault.Fault{Code: api.ErrForm, Line: i + 1, Note: "line"}
		}
	}
	var out []rune
	for i, line := range lines {
		said := saidForm.FindStringSubmatch(line)
		if said == nil {
			return cpset.Set{}, fault.Fault{Code: api.ErrForm, Line: i + 1, Note: "code"}
		}
		if said[1] == "" {
			continue
		}
		n, _ := strconv.ParseInt(said[1], 16, 32)
		if n >= 0xD800 && n <= 0xDFFF {
			return cpset.Set{}, fault.Fault{Code: api.ErrForm, Line: i + 1, Note: "character"}
		}
		if slices.Contains(out, rune(n)) {
			return cpset.Set{}, fault.Fault{Code: api.ErrForm, Line: i + 1, Note: "twice"}
		}
		out = append(out, rune(n))
	}
	return cpset.Chars(out...), fault.Fault{}
}

func checkPlain(t *testing.T, s string) {
	t.Helper()
	want, wrong := plainParse(s)
	if wrong.Code != api.OK {
		checkWrong(t, s, wrong)
		return
	}
	checkSet(t, "P10.1", s, want)
	checkSet(t, "P10.2", excl.Text(want), want)
}

// kinds are lines that tell in all ways.
func kinds() []string {
	return []string{
		"", " ", "#", " # a note", "0958", "0958 # QA", " 0958", "0959", "1D15E", "10FFFF", "0000", "D7FF", "D800", "DFFF # x", "E000",
		"x", "958", "0958 0959", "110000", "0958;", "\t", "\x7f", "0958\t# x",
	}
}

// TestShortTexts: all texts of up to three of these lines.
func TestShortTexts(t *testing.T) {
	for _, a := range kinds() {
		checkPlain(t, a)
		for _, b := range kinds() {
			checkPlain(t, a+"\n"+b)
			for _, c := range kinds() {
				checkPlain(t, a+"\n"+b+"\n"+c)
			}
		}
	}
}

// TestOneByteOff: a text in which one byte is another one, is missing, or is
// there twice.
func TestOneByteOff(t *testing.T) {
	s := "# head\n0958 # QA\n\n 0959\n10FFFF\nD7FF#x\n"
	for i := range s {
		checkPlain(t, s[:i])
		checkPlain(t, s[i:])
		checkPlain(t, s[:i]+s[i+1:])
		checkPlain(t, s[:i]+s[i:i+1]+s[i:])
		for b := range 256 {
			checkPlain(t, s[:i]+string([]byte{byte(b)})+s[i+1:])
		}
	}
}

func FuzzParse(f *testing.F) {
	for _, kind := range kinds() {
		f.Add(kind, "0041")
	}
	f.Fuzz(func(t *testing.T, a, b string) {
		checkPlain(t, a)
		checkPlain(t, a+"\n"+b)
	})
}
