package message_test

import (
	"bytes"
	"encoding/binary"
	"hash/crc32"
	"slices"
	"testing"

	"riffle/api"
	"riffle/frame"
	"riffle/message"
)

// framesByWords is the frames of payloads, as the document's words have them.
func framesByWords(payloads ...[]byte) []byte {
	var b []byte
	for _, payload := range payloads {
		b = binary.BigEndian.AppendUint16(b, uint16(len(payload)))
		b = binary.BigEndian.AppendUint32(b, crc32.ChecksumIEEE(payload))
		b = append(b, payload...)
	}
	return b
}

// P7.4

func mustStream[M any](t *testing.T, s side[M], l ...M) {
	t.Helper()
	var payloads [][]byte
	for _, m := range l {
		payloads = append(payloads, s.byWords(m))
	}
	b, err := s.stream(l...)
	if want := framesByWords(payloads...); err != api.OK || !bytes.Equal(b, want) {
		t.Fatalf("%d messages: %v, %v; want %v", len(l), b, err, want)
	}
	d := frame.New()
	d.Push(b)
	for i, m := range l {
		payload, is, err := d.Next()
		if !is || err != api.OK {
			t.Fatalf("no frame for message %d", i)
		}
		mustDecode(t, s, payload, m)
	}
	if _, is, err := d.Next(); is || err != api.OK || d.Rest() != 0 {
		t.Errorf("something behind the last message: %v, %v, %d bytes", is, err, d.Rest())
	}
}

func testStreams[M any](t *testing.T, s side[M]) {
	mustStream(t, s)
	l := s.mayBe()
	mustStream(t, s, l...)
	slices.Reverse(l)
	mustStream(t, s, l...)
	for _, m := range l {
		mustStream(t, s, m)
		mustStream(t, s, m, m)
	}
}

func TestStreams(t *testing.T) {
	both(t, testStreams, testStreams)
}

func testNoStreams[M any](t *testing.T, s side[M]) {
	good := s.mayBe()[:3]
	for _, m := range s.mayNotBe() {
		for at := range len(good) + 1 {
			l := slices.Insert(slices.Clone(good), at, m)
			if b, err := s.stream(l...); err != api.ErrArg || b != nil {
				t.Fatalf("%+v at %d: %v, %v; want nothing and %v", m, at, b, err, api.ErrArg)
			}
		}
		if b, err := s.stream(m); err != api.ErrArg || b != nil {
			t.Fatalf("%+v: %v, %v; want nothing and %v", m, b, err, api.ErrArg)
		}
	}
}

func TestOneThatMayNotBeIsRefusedWithAllOthers(t *testing.T) {
	both(t, testNoStreams, testNoStreams)
}

func TestStreamOfTheExamples(t *testing.T) {
	b, err := message.Requests(api.Request{Kind: api.ReqPause, ID: 258}, api.Request{Kind: api.ReqBye, ID: 259})
	if want := framesByWords([]byte{7, 0, 0, 1, 2}, []byte{12, 0, 0, 1, 3}); err != api.OK || !bytes.Equal(b, want) {
		t.Errorf("%v, %v; want %v", b, err, want)
	}
	b, err = message.Responses(api.Response{Kind: api.ResError, Err: api.ErrSum})
	if want := framesByWords([]byte{5, 11}); err != api.OK || !bytes.Equal(b, want) {
		t.Errorf("%v, %v; want %v", b, err, want)
	}
}

func TestStreamsShareNothing(t *testing.T) {
	l := []api.Request{{Kind: api.ReqLoad, Model: model(9)}, {Kind: api.ReqStep, ID: 5}}
	b, _ := message.Requests(l...)
	was := bytes.Clone(b)
	clear(l[0].Model)
	clear(l)
	if !bytes.Equal(b, was) {
		t.Error("the stream was changed through its messages")
	}
	l = []api.Request{{Kind: api.ReqLoad, Model: model(9)}}
	b, _ = message.Requests(l...)
	clear(b[:cap(b)])
	if !bytes.Equal(l[0].Model, model(9)) {
		t.Error("the messages were changed through their stream")
	}
	numbered := []api.Response{{Kind: api.ResState, Vars: numbers(3)}}
	b, _ = message.Responses(numbered...)
	was = bytes.Clone(b)
	clear(numbered[0].Vars)
	if !bytes.Equal(b, was) {
		t.Error("the stream was changed through its numbers")
	}
}
