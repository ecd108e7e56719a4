package model

import (
	"errors"

	"riffle/api"
)

// fault is where a reader can't go on, and why.
type fault struct {
	part string
	why  error
}

func (f *fault) Error() string { return f.part + ": " + f.why.Error() }

func (f *fault) Unwrap() error { return f.why }

// cannot is the fault of a reader that can't go on at a part: what it reads is no model's.
func cannot(part string) error {
	return &fault{part: part, why: api.ErrModel}
}

// whole is what a reader has come to, if it could go on to the end, and that is a model that may be.
func whole(m api.Model, err error) (api.Model, api.Errno) {
	if errors.Is(err, api.ErrModel) || !May(m) {
		return api.Model{}, api.ErrModel
	}
	return m, api.OK
}

// firstNumbers is how many numbers are told of a first event.
const firstNumbers = 4

// numbersOf are what is told of a first event: its origin is 0, its Seq its place.
func numbersOf(e api.Event) [firstNumbers]int64 {
	return [...]int64{e.Time, int64(e.To), int64(e.Kind), e.Data}
}

// firstOf is the first event at this place of which these numbers are told.
func firstOf(place int, numbers [firstNumbers]int64) api.Event {
	return api.Event{
		Key:  api.Key{Time: numbers[0], Seq: int64(place)},
		To:   int(numbers[1]),
		Kind: int(numbers[2]),
		Data: numbers[3],
	}
}
