package frame

import (
	"bytes"
	"errors"

	"riffle/api"
	"riffle/crc"
)

var errUnfinished = errors.New("more of the frame must come")

// Decoder gets a stream in chunks, and tells its payloads. A zero one is a new one.
type Decoder struct {
	at    int64 // how many bytes of the stream stand ahead of what is left
	left  []byte
	wrong api.Broken // a value, so that what Wrong hands out is the caller's own; of Err OK, nothing is
}

// New is a decoder to which nothing came.
func New() *Decoder {
	return &Decoder{}
}

// Push lets a chunk come behind what came.
func (d *Decoder) Push(chunk []byte) {
	if d == nil || d.isBroken() {
		return
	}
	d.left = append(d.left, chunk...)
}

// Next tells the next payload, if it is there, or what is wrong.
func (d *Decoder) Next() ([]byte, bool, api.Errno) {
	if d == nil {
		return nil, false, api.ErrNil
	}
	payload, err := d.look()
	var broken *api.Broken
	if errors.As(err, &broken) {
		d.wrong, d.left = *broken, nil
		return nil, false, broken.Err
	}
	if errors.Is(err, errUnfinished) {
		return nil, false, api.OK
	}
	told := bytes.Clone(payload)
	d.pass(Size(len(payload)))
	return told, true, api.OK
}

// look finds the payload of the frame at which it stands, as a part of what is left.
func (d *Decoder) look() ([]byte, error) {
	if d.isBroken() {
		return nil, d.Wrong()
	}
	if len(d.left) < lengthBytes {
		return nil, errUnfinished
	}
	n := int(number(d.left[:lengthBytes:lengthBytes]))
	if !mayBeLength(n) {
		return nil, &api.Broken{At: d.at, Err: api.ErrLength}
	}
	size := Size(n)
	if len(d.left) < size {
		return nil, errUnfinished
	}
	payload := d.left[headBytes:size:size]
	if number(d.left[lengthBytes:headBytes:headBytes]) != crc.Sum(payload) {
		return nil, &api.Broken{At: d.at, Err: api.ErrSum}
	}
	return payload, nil
}

func number(b []byte) uint32 {
	var n uint32
	for _, x := range b {
		n = n<<8 | uint32(x)
	}
	return n
}

func (d *Decoder) pass(size int) {
	d.at += int64(size)
	d.left = d.left[size:]
	if len(d.left) == 0 {
		d.left = nil // else bytes that were told would be kept till more come
	}
}

func (d *Decoder) isBroken() bool {
	return d.wrong.Err != api.OK
}

// Wrong is the error that Next told, and where it is.
func (d *Decoder) Wrong() error {
	if d == nil || !d.isBroken() {
		return nil
	}
	told := d.wrong
	return &told
}

// Rest is how many bytes came that belong to no payload that was told.
func (d *Decoder) Rest() int {
	if d == nil {
		return 0
	}
	return len(d.left)
}

// Copy is one that goes on apart.
func (d *Decoder) Copy() *Decoder {
	if d == nil {
		return nil
	}
	return &Decoder{at: d.at, left: bytes.Clone(d.left), wrong: d.wrong}
}

// Same is whether both stand at the same place, and will tell the same of whatever comes.
func (d *Decoder) Same(o *Decoder) bool {
	if d == nil || o == nil {
		return d == o
	}
	return d.at == o.at && d.wrong == o.wrong && bytes.Equal(d.left, o.left)
}
