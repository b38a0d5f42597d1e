package fault

import "cedilla/api"

// Cause is what a number tells of.
type Cause int

// What numbers tell of.
const (
	Input Cause = iota + 1
	Table
	Cost
	State
)

// Causes: what a number tells of, rising; of OK, and of what is no error's
// number, nothing.
func Causes(c api.Errno) []Cause {
	var told []Cause
	switch c {
	case api.ErrForm, api.ErrEnd, api.ErrSum:
		told = append(told, Input)
		fallthrough
	case api.ErrData:
		told = append(told, Table)
	case api.ErrBudget, api.ErrLimit, api.ErrBig, api.ErrTooLong:
		told = append(told, Input, Cost)
	case api.ErrToken, api.ErrClosed:
		told = append(told, Input, State)
	case api.ErrArg, api.ErrDiv, api.ErrEncoding, api.ErrRange, api.ErrMember, api.ErrConflict:
		told = append(told, Input)
	}
	return told
}
