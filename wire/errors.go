package wire

import (
	"errors"
	"strconv"

	"capstan/api"
)

// refusal is what is wrong with bytes, told by one who does not know their place.
type refusal api.Errno

func (r refusal) Error() string {
	return "refused with error " + strconv.Itoa(int(r))
}

// placed is an error with the place of the item at which it came up.
type placed struct {
	at  int
	err error
}

func (p placed) Error() string {
	return "at " + strconv.Itoa(p.at) + ": " + p.err.Error()
}

func (p placed) Unwrap() error {
	return p.err
}

// faultOf answers what err holds of a refusal and a place; an error without a place is one at 0.
func faultOf(err error) api.Fault {
	var fault api.Fault
	var r refusal
	if errors.As(err, &r) {
		fault.Code = api.Errno(r)
	}
	var p placed
	if errors.As(err, &p) {
		fault.At = p.at
	}
	return fault
}
