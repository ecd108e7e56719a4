package process

import (
	"errors"

	"riffle/api"
)

// refusal is which call is refused, and why.
type refusal struct {
	call string
	why  error
}

func (r *refusal) Error() string { return r.call + ": " + r.why.Error() }

func (r *refusal) Unwrap() error { return r.why }

func refuse(call string, why api.Errno) error {
	return &refusal{call: call, why: why}
}

// number is the number that is wrapped in an error (OK, where none is).
func number(err error) api.Errno {
	var why api.Errno
	if errors.As(err, &why) {
		return why
	}
	return api.OK
}
