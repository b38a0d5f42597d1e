package fault_test

import (
	"slices"
	"testing"

	"cedilla/api"
	"cedilla/fault"
)

func TestCauseNumbers(t *testing.T) {
	got := []fault.Cause{fault.Input, fault.Table, fault.Cost, fault.State}
	if !slices.Equal(got, []fault.Cause{1, 2, 3, 4}) {
		t.Errorf("P4.3: Input, Table, Cost, State: %v", got)
	}
}

func TestCauses(t *testing.T) {
	input := []fault.Cause{fault.Input}
	inputTable := []fault.Cause{fault.Input, fault.Table}
	inputCost := []fault.Cause{fault.Input, fault.Cost}
	inputState := []fault.Cause{fault.Input, fault.State}
	want := map[api.Errno][]fault.Cause{
		api.ErrArg:      input,
		api.ErrEnd:      inputTable,
		api.ErrForm:     inputTable,
		api.ErrBig:      inputCost,
		api.ErrDiv:      input,
		api.ErrEncoding: input,
		api.ErrTooLong:  inputCost,
		api.ErrData:     {fault.Table},
		api.ErrBudget:   inputCost,
		api.ErrRange:    input,
		api.ErrMember:   input,
		api.ErrToken:    inputState,
		api.ErrClosed:   inputState,
		api.ErrLimit:    inputCost,
		api.ErrConflict: input,
		api.ErrSum:      inputTable,
	}
	// OK, and numbers that no error has, aren't in want: they tell of nothing.
	for _, c := range numbers() {
		if got := fault.Causes(c); !slices.Equal(got, want[c]) {
			t.Errorf("P4.3: Causes(%d): %v, want %v", c, got, want[c])
		}
	}
}

func TestCausesAreNew(t *testing.T) {
	for _, c := range numbers() {
		first := fault.Causes(c)
		second := fault.Causes(c)
		for i := range first {
			first[i] = 0
		}
		if slices.Contains(second, 0) || slices.Contains(fault.Causes(c), 0) {
			t.Errorf("P4.3: Causes(%d): its answers share memory", c)
		}
	}
}
