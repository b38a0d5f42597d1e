package field_test

import (
	"fmt"
	"slices"
	"strings"
	"testing"

	"cedilla/api"
	"cedilla/fault"
	"cedilla/field"
)

func TestLines(t *testing.T) {
	longest := strings.Repeat("~", 1000)
	for s, want := range map[string][]string{
		"":                              nil,
		"\n":                            {""},
		"\n\n":                          {"", ""},
		"\n\n\n":                        {"", "", ""},
		"a":                             {"a"},
		"a\n":                           {"a"},
		"a\n\n":                         {"a", ""},
		"\na":                           {"", "a"},
		"a\nb":                          {"a", "b"},
		"a\nb\n":                        {"a", "b"},
		"a\n\nb":                        {"a", "", "b"},
		" a ;# \n b":                    {" a ;# ", " b"},
		" ":                             {" "},
		"~\n !\"":                       {"~", " !\""},
		longest:                         {longest},
		longest + "\n":                  {longest},
		longest + "\n" + longest:        {longest, longest},
		"\n" + longest + "\n\n":         {"", longest, ""},
		longest[:500] + "\n" + longest:  {longest[:500], longest},
		"00C5;X;Lu;0;L;0041 030A;;\n00": {"00C5;X;Lu;0;L;0041 030A;;", "00"},
	} {
		got, err := field.Lines(s)
		if err != nil || !slices.Equal(got, want) {
			t.Errorf("P8.1: Lines(%.40q): %.40q, %v; want %.40q", s, got, err, want)
		}
	}
}

// checkWrong: a wrong line is told with its number, its line, and "line".
func checkWrong(t *testing.T, s string, code api.Errno, line int) {
	t.Helper()
	got, err := field.Lines(s)
	f, isFault := err.(*fault.Fault)
	if len(got) != 0 || !isFault || *f != (fault.Fault{Code: code, Line: line, Note: "line"}) {
		t.Errorf("P8.1: Lines(%.40q): %.40q, %v; want code %d, line %d", s, got, err, code, line)
	}
}

func TestLinesWrong(t *testing.T) {
	big := strings.Repeat("x", 1001)
	checkWrong(t, big, api.ErrBig, 1)
	checkWrong(t, big+"\n", api.ErrBig, 1)
	checkWrong(t, big[1:]+"\n"+big, api.ErrBig, 2)
	checkWrong(t, "\n\n\n"+big+"\n\t", api.ErrBig, 4)
	checkWrong(t, "a\n\t\n"+big, api.ErrForm, 2)
	checkWrong(t, "a\nb\tc", api.ErrForm, 2)
	checkWrong(t, "a\r\nb\r\n", api.ErrForm, 1)
	checkWrong(t, "a\n\u00e9\n\x7f", api.ErrForm, 2)
	checkWrong(t, "a\n\n\xff", api.ErrForm, 3)
	// Of one line that is wrong in both ways the number of bytes is told.
	checkWrong(t, "\t"+big, api.ErrBig, 1)
	checkWrong(t, big[1:]+"\t", api.ErrBig, 1)
	checkWrong(t, big+"\x80", api.ErrBig, 1)
	checkWrong(t, big[2:]+"\t", api.ErrForm, 1)
	checkWrong(t, strings.Repeat("\u00e9", 500), api.ErrForm, 1)
	checkWrong(t, strings.Repeat("\u00e9", 501), api.ErrBig, 1)
	checkWrong(t, strings.Repeat("a\n", 100000)+"\x00", api.ErrForm, 100001)
	checkWrong(t, strings.Repeat("x", 1<<20), api.ErrBig, 1)
}

// TestEachByte: at any place in a line, those from 32 to 126 may be.
func TestEachByte(t *testing.T) {
	for b := range 256 {
		if b == '\n' {
			continue
		}
		for _, around := range [][2]string{{"", ""}, {"a", ""}, {"", "a"}, {"a", "a"}} {
			line := around[0] + string([]byte{byte(b)}) + around[1]
			if b < 32 || b > 126 {
				checkWrong(t, "first\n"+line+"\nlast", api.ErrForm, 2)
				continue
			}
			if got, err := field.Lines("first\n" + line + "\nlast"); err != nil || !slices.Equal(got, []string{"first", line, "last"}) {
				t.Errorf("P8.1: Lines with %q: %q, %v", line, got, err)
			}
		}
	}
}

// TestLinesJoined: lines, with a byte 10 between each two, or behind each of
// them, are read back.
func TestLinesJoined(t *testing.T) {
	for count := range 6 {
		for filled := range 1 << count {
			lines := make([]string, count)
			for i := range lines {
				if filled>>i&1 == 1 {
					lines[i] = fmt.Sprint("line ", i)
				}
			}
			behind := strings.Join(append(slices.Clone(lines), ""), "\n")
			if got, err := field.Lines(behind); err != nil || !slices.Equal(got, lines) {
				t.Errorf("P8.1: Lines(%q): %q, %v", behind, got, err)
			}
			// An empty last line shows by the byte behind it alone.
			if count == 0 || lines[count-1] == "" {
				continue
			}
			between := strings.Join(lines, "\n")
			if got, err := field.Lines(between); err != nil || !slices.Equal(got, lines) {
				t.Errorf("P8.1: Lines(%q): %q, %v", between, got, err)
			}
		}
	}
}

func TestSplit(t *testing.T) {
	for line, want := range map[string][]string{
		"":                     {""},
		";":                    {"", ""},
		"a":                    {"a"},
		"a;":                   {"a", ""},
		";a":                   {"", "a"},
		"a;;b;":                {"a", "", "b", ""},
		" a ; b ":              {" a ", " b "},
		"a#b;c":                {"a#b", "c"},
		"a,b:c":                {"a,b:c"},
		"\xff;\u00e9;\n":       {"\xff", "\u00e9", "\n"},
		"\xef\xbc\x9b":         {"\xef\xbc\x9b"},
		"0041;X;;0;;;;;;;;;;;": {"0041", "X", "", "0", "", "", "", "", "", "", "", "", "", "", ""},
	} {
		got := field.Split(line)
		if !slices.Equal(got, want) {
			t.Errorf("P8.1: Split(%q): %q, want %q", line, got, want)
		}
		if back := strings.Join(got, ";"); back != line {
			t.Errorf("P8.1: Split(%q), and back: %q", line, back)
		}
	}
	if got := field.Split(strings.Repeat(";", 100000)); len(got) != 100001 {
		t.Errorf("P8.1: Split of many: %d", len(got))
	}
}

func TestStrip(t *testing.T) {
	for line, want := range map[string]string{
		"":                  "",
		" ":                 "",
		"   ":               "",
		"#":                 "",
		"  # a":             "",
		"#0958":             "",
		"0958":              "0958",
		"  0958  ":          "0958",
		"0958 # a note":     "0958",
		"  0958 # x":        "0958",
		"0958#x":            "0958",
		"0958 # a # b":      "0958",
		"0958 ## b":         "0958",
		" a  b ":            "a  b",
		"a # b ; c":         "a",
		"a;b # c":           "a;b",
		"\ta\t":             "\ta\t",
		"\u00a0a\u00a0":     "\u00a0a\u00a0",
		" \xff # \xff":      "\xff",
		"\x00 # ":           "\x00",
		"a\n #b\nc":         "a\n",
		" \r a \v ":         "\r a \v",
		"\xef\xbc\x83 full": "\xef\xbc\x83 full",
	} {
		if got := field.Strip(line); got != want {
			t.Errorf("P8.1: Strip(%q): %q, want %q", line, got, want)
		}
	}
}

func TestMemory(t *testing.T) {
	for what, answer := range map[string]func() []string{
		"Split": func() []string { return field.Split("a;b") },
		"Lines": func() []string { lines, _ := field.Lines("a\nb"); return lines },
	} {
		first, second := answer(), answer()
		clear(first)
		if !slices.Equal(second, []string{"a", "b"}) || !slices.Equal(answer(), second) {
			t.Errorf("P8.1: %s: its answers share memory", what)
		}
	}
	first, _ := field.Hexes("0041 0042")
	second, _ := field.Hexes("0041 0042")
	clear(first)
	if !slices.Equal(second, []rune{0x41, 0x42}) {
		t.Errorf("P8.1: Hexes: its answers share memory")
	}
}

// wantLines takes what the library splits; behind the last byte 10 there is
// no line.
func wantLines(s string) ([]string, api.Errno, int) {
	lines := strings.Split(s, "\n")
	if lines[len(lines)-1] == "" {
		lines = lines[:len(lines)-1]
	}
	for i, line := range lines {
		if len(line) > 1000 {
			return nil, api.ErrBig, i + 1
		}
		for _, b := range []byte(line) {
			if b < 32 || b > 126 {
				return nil, api.ErrForm, i + 1
			}
		}
	}
	return lines, api.OK, 0
}

func FuzzLines(f *testing.F) {
	f.Add("a\n\nb", 1)
	f.Add("a\n\t\n", 300)
	f.Add("\xff\n", 1001)
	f.Fuzz(func(t *testing.T, s string, times int) {
		s = strings.Repeat(s, max(1, min(times, 1100)))
		if len(s) > 1<<14 {
			s = s[:1<<14]
		}
		lines, code, line := wantLines(s)
		if code != api.OK {
			checkWrong(t, s, code, line)
			return
		}
		if got, err := field.Lines(s); err != nil || !slices.Equal(got, lines) {
			t.Errorf("P8.1: Lines(%q): %q, %v; want %q", s, got, err, lines)
		}
	})
}
