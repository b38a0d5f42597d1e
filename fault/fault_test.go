package fault_test

import (
	"errors"
	"fmt"
	"slices"
	"strings"
	"testing"

	"cedilla/api"
	"cedilla/fault"
)

// strange is an error of another kind, one that no == may be asked of.
type strange []string

func (s strange) Error() string { return strings.Join(s, " ") }

// around wraps as a library's error would.
type around struct{ inner error }

func (a around) Error() string { return "around" }
func (a around) Unwrap() error { return a.inner }

// numbers are all that api names, and some that there aren't.
func numbers() []api.Errno {
	out := []api.Errno{-1 << 31, -2, -1, 17, 18, 99, 1<<31 - 1}
	for c := api.OK; c <= api.ErrSum; c++ {
		out = append(out, c)
	}
	return out
}

// wrappings are the ways in which an error may come wrapped.
func wrappings() map[string]func(error) error {
	return map[string]func(error) error{
		"bare":    func(e error) error { return e },
		"Wrap":    func(e error) error { return fault.Wrap(e, "w") },
		"Wrap -":  func(e error) error { return fault.Wrap(e, "") },
		"another": func(e error) error { return around{e} },
		"%w":      func(e error) error { return fmt.Errorf("f: %w", e) },
		"join":    func(e error) error { return errors.Join(strange{"s"}, e) },
		"%w %w":   func(e error) error { return fmt.Errorf("%w, %w", errors.New("x"), e) },
		"mixed": func(e error) error {
			return fault.Wrap(errors.Join(around{nil}, fmt.Errorf("f: %w", around{fault.Wrap(e, "in")})), "out")
		},
	}
}

type told struct {
	code  api.Errno
	line  int
	notes []string
	text  string
}

func check(t *testing.T, what string, err error, want told) {
	t.Helper()
	got := told{fault.Code(err), fault.Line(err), fault.Notes(err), fault.Text(err)}
	if got.code != want.code || got.line != want.line || !slices.Equal(got.notes, want.notes) || got.text != want.text {
		t.Errorf("P4.1: %s: %+v, want %+v", what, got, want)
	}
}

func TestOfAndAt(t *testing.T) {
	for _, c := range numbers() {
		if c == api.OK {
			continue
		}
		code := fmt.Sprintf("code %d", c)
		check(t, "Of", fault.Of(c), told{c, 0, nil, code})
		check(t, "At, all", fault.At(c, 7, "n"), told{c, 7, []string{"n"}, "n: line 7: " + code})
		check(t, "At, a line", fault.At(c, 1, ""), told{c, 1, nil, "line 1: " + code})
		check(t, "At, below 0", fault.At(c, -3, ""), told{c, -3, nil, "line -3: " + code})
		check(t, "At, a note", fault.At(c, 0, "n"), told{c, 0, []string{"n"}, "n: " + code})
		check(t, "At, neither", fault.At(c, 0, ""), told{c, 0, nil, code})
		f, isFault := fault.At(c, 7, "n").(*fault.Fault)
		if !isFault || *f != (fault.Fault{Code: c, Line: 7, Note: "n"}) {
			t.Errorf("P4.1: At(%d, 7, n): %#v", c, f)
		}
	}
}

func TestNothing(t *testing.T) {
	for what, err := range map[string]error{
		"Of(OK)":      fault.Of(api.OK),
		"At(OK)":      fault.At(api.OK, 7, "n"),
		"At(OK, 0)":   fault.At(api.OK, 0, ""),
		"Wrap(nil)":   fault.Wrap(nil, "n"),
		"Wrap(nil -)": fault.Wrap(nil, ""),
	} {
		if err != nil {
			t.Errorf("P4.1: %s isn't nil: %#v", what, err)
		}
	}
	check(t, "nil", nil, told{})
}

func TestWrap(t *testing.T) {
	inner := fault.At(api.ErrForm, 7, "field")
	outer := fault.Wrap(inner, "data")
	check(t, "the example", outer, told{api.ErrForm, 7, []string{"data", "field"}, "data: field: line 7: code 3"})
	check(t, "without a note", fault.Wrap(outer, ""), told{api.ErrForm, 7, []string{"data", "field"}, "data: field: line 7: code 3"})
	check(t, "inside, still", inner, told{api.ErrForm, 7, []string{"field"}, "field: line 7: code 3"})
	f, isFault := outer.(*fault.Fault)
	if !isFault || *f != (fault.Fault{Code: api.ErrForm, Note: "data", Cause: inner}) {
		t.Errorf("P4.1: Wrap: %#v", outer)
	}
	if errors.Unwrap(outer) != inner || errors.Unwrap(inner) != nil {
		t.Errorf("P4.1: Unwrap: %v, %v", errors.Unwrap(outer), errors.Unwrap(inner))
	}
}

func TestOtherErrors(t *testing.T) {
	for _, err := range []error{errors.New("x"), strange{"a", "b"}, strange(nil), around{nil}, around{strange{"a"}}, errors.Join(errors.New("x"), strange{"y"})} {
		check(t, err.Error(), err, told{api.ErrArg, 0, nil, "code 1"})
		check(t, "wrapped "+err.Error(), fault.Wrap(err, "n"), told{api.ErrArg, 0, []string{"n"}, "n: code 1"})
	}
}

// TestOutermostFirst: of unlike numbers, lines and notes those further out
// come first, whatever stands between them.
func TestOutermostFirst(t *testing.T) {
	low := fault.At(api.ErrData, 9, "low")
	for how, wrap := range wrappings() {
		middle := &fault.Fault{Code: api.ErrEnd, Cause: wrap(low)}
		if got := fault.Code(around{middle}); got != api.ErrEnd {
			t.Errorf("P4.1: %s: the first number: %d", how, got)
		}
		if got := fault.Line(around{middle}); got != 9 {
			t.Errorf("P4.1: %s: the first line that isn't 0: %d", how, got)
		}
		high := &fault.Fault{Code: api.ErrSum, Line: 4, Note: "high", Cause: wrap(low)}
		if got := fault.Line(around{high}); got != 4 {
			t.Errorf("P4.1: %s: the first line: %d", how, got)
		}
		notes := fault.Notes(around{high})
		if len(notes) < 2 || notes[0] != "high" || notes[len(notes)-1] != "low" {
			t.Errorf("P4.1: %s: notes %q", how, notes)
		}
	}
}

func TestSeveralWrapped(t *testing.T) {
	err := fault.Wrap(errors.Join(
		around{fault.At(api.ErrBig, 0, "a")},
		errors.Join(strange{"s"}, fault.Wrap(fault.At(api.ErrEnd, 5, "c"), "b")),
		fault.At(api.ErrArg, 6, "d"),
	), "top")
	check(t, "several", err, told{api.ErrBig, 5, []string{"top", "a", "b", "c", "d"}, "top: a: b: c: d: line 5: code 4"})
}

func TestErrorIsText(t *testing.T) {
	for _, err := range []error{
		fault.Of(api.ErrSum),
		fault.At(api.ErrForm, 7, "field"),
		fault.Wrap(fault.At(api.ErrForm, 7, "field"), "data"),
		fault.Wrap(errors.New("x"), "n"),
		fault.Wrap(around{fault.At(api.ErrEnd, -1, "m")}, ""),
	} {
		if err.Error() != fault.Text(err) || err.Error() == "" {
			t.Errorf("P4.1: Error %q, Text %q", err.Error(), fault.Text(err))
		}
	}
}

func TestNotesAreNew(t *testing.T) {
	err := fault.Wrap(fault.At(api.ErrForm, 7, "field"), "data")
	fault.Notes(err)[0] = "other"
	check(t, "behind a change of what was answered", err, told{api.ErrForm, 7, []string{"data", "field"}, "data: field: line 7: code 3"})
}

func TestIsAndAsThroughWraps(t *testing.T) {
	for how, wrap := range wrappings() {
		for _, c := range numbers() {
			if c == api.OK {
				continue
			}
			err := wrap(fault.At(c, 7, "field"))
			checkIs(t, how, err, c)
			var f *fault.Fault
			if !errors.As(err, &f) || f.Code != c {
				t.Errorf("P4.2: %s: As of %d: %v", how, c, f)
			}
			if got := fault.Code(err); got != c {
				t.Errorf("P4.1: %s: Code of %d: %d", how, c, got)
			}
		}
	}
}

func checkIs(t *testing.T, how string, err error, c api.Errno) {
	t.Helper()
	for _, other := range numbers() {
		if other == api.OK {
			continue
		}
		if got := errors.Is(err, fault.Of(other)); got != (other == c) {
			t.Errorf("P4.2: %s: is %d %d: %v", how, c, other, got)
		}
	}
}

func TestIs(t *testing.T) {
	f := &fault.Fault{Code: api.ErrForm, Line: 7, Note: "field", Cause: errors.New("x")}
	for _, c := range []struct {
		what   string
		target error
		want   bool
	}{
		{"its number", fault.Of(api.ErrForm), true},
		{"its number, by At", fault.At(api.ErrForm, 0, ""), true},
		{"another number", fault.Of(api.ErrData), false},
		{"with a line", fault.At(api.ErrForm, 7, ""), false},
		{"with a line below 0", fault.At(api.ErrForm, -1, ""), false},
		{"with a note", fault.At(api.ErrForm, 0, "field"), false},
		{"with a cause", fault.Wrap(fault.Of(api.ErrForm), ""), false},
		{"itself", f, false},
		{"its number, in another error", around{fault.Of(api.ErrForm)}, false},
		{"another error", errors.New("x"), false},
		{"an error without ==", strange{"x"}, false},
		{"nil", nil, false},
	} {
		if got := f.Is(c.target); got != c.want {
			t.Errorf("P4.2: Is, %s: %v", c.what, got)
		}
	}
}

func TestAsFindsTheOutermost(t *testing.T) {
	err := around{fault.Wrap(fault.At(api.ErrForm, 7, "field"), "data")}
	var f *fault.Fault
	if !errors.As(err, &f) || f.Note != "data" || f.Line != 0 || f.Code != api.ErrForm {
		t.Errorf("P4.2: As: %#v", f)
	}
	if errors.As(errors.Join(errors.New("x"), strange{"s"}), &f) {
		t.Errorf("P4.2: As finds a *Fault where there is none")
	}
}

func TestDeepChain(t *testing.T) {
	const depth = 1 << 16
	linear, joined := fault.At(api.ErrSum, 3, "x"), fault.At(api.ErrSum, 3, "x")
	for i := range depth - 1 {
		linear = fault.Wrap(linear, "x")
		if i%2 == 0 {
			joined = errors.Join(joined)
		} else {
			joined = fault.Wrap(joined, "x")
		}
	}
	check(t, "a deep chain", linear, told{api.ErrSum, 3, slices.Repeat([]string{"x"}, depth), strings.Repeat("x: ", depth) + "line 3: code 16"})
	check(t, "a deep chain of joins", joined, told{api.ErrSum, 3, slices.Repeat([]string{"x"}, depth/2), strings.Repeat("x: ", depth/2) + "line 3: code 16"})
	if !errors.Is(linear, fault.Of(api.ErrSum)) || errors.Is(linear, fault.Of(api.ErrArg)) {
		t.Errorf("P4.2: Is, of a deep chain")
	}
}

func TestNilFault(t *testing.T) {
	var none *fault.Fault
	check(t, "a nil *Fault", none, told{api.ErrArg, 0, nil, "code 1"})
	if none.Error() != "code 1" || none.Unwrap() != nil || none.Is(fault.Of(api.ErrArg)) {
		t.Errorf("P1: a nil *Fault bears something")
	}
	if errors.Is(fault.Of(api.ErrArg), none) {
		t.Errorf("P4.2: Is finds a nil *Fault")
	}
	check(t, "a wrapped nil *Fault", fault.Wrap(none, "n"), told{api.ErrArg, 0, []string{"n"}, "n: code 1"})
}
