package frame_test

import (
	"bytes"
	"encoding/binary"
	"hash/crc32"
	"math/rand"
	"testing"

	"riffle/api"
	"riffle/frame"
)

// byWords is a payload's frame, as the document's words have it, whatever the payload's length.
func byWords(payload []byte) []byte {
	b := binary.BigEndian.AppendUint16(nil, uint16(len(payload)))
	b = binary.BigEndian.AppendUint32(b, crc32.ChecksumIEEE(payload))
	return append(b, payload...)
}

func text(r *rand.Rand, n int) []byte {
	b := make([]byte, n)
	r.Read(b)
	return b
}

// P2.1

func TestEncodeOfTheExample(t *testing.T) {
	b, e := frame.Encode([]byte("a"))
	if want := []byte{0, 1, 0xE8, 0xB7, 0xBE, 0x43, 'a'}; e != api.OK || !bytes.Equal(b, want) {
		t.Errorf("%v %v, want %v", b, e, want)
	}
}

func TestEncodeOfAllLengths(t *testing.T) {
	r := rand.New(rand.NewSource(1))
	for _, n := range []int{1, 2, 3, 255, 256, 257, 4095, api.MaxFrame} {
		payload := text(r, n)
		was := bytes.Clone(payload)
		b, e := frame.Encode(payload)
		if e != api.OK || !bytes.Equal(b, byWords(payload)) {
			t.Errorf("%d bytes: %v, and not its frame", n, e)
		}
		if frame.Size(n) != len(b) || frame.Size(n) != n+6 {
			t.Errorf("%d bytes: Size %d, the frame has %d", n, frame.Size(n), len(b))
		}
		if !bytes.Equal(payload, was) {
			t.Errorf("%d bytes: the payload was changed", n)
		}
	}
}

func TestEncodeOfWhatMayNotBe(t *testing.T) {
	for _, payload := range [][]byte{nil, {}, make([]byte, api.MaxFrame+1), make([]byte, 1<<16), make([]byte, 1<<16+1)} {
		if b, e := frame.Encode(payload); b != nil || e != api.ErrArg {
			t.Errorf("%d bytes: %d bytes, %v", len(payload), len(b), e)
		}
	}
}

func TestEncodedIsNewMemory(t *testing.T) {
	payload := append(make([]byte, 0, 100), "abc"...)
	b, _ := frame.Encode(payload)
	clear(payload)
	if !bytes.Equal(b, byWords([]byte("abc"))) {
		t.Error("the frame changed with the payload")
	}
	payload = []byte("abc")
	b, _ = frame.Encode(payload)
	clear(b)
	if string(payload) != "abc" {
		t.Error("the payload changed with the frame")
	}
}
