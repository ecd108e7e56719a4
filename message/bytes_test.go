package message_test

import (
	"bytes"
	"reflect"
	"slices"
	"testing"

	"riffle/api"
	"riffle/message"
)

func mustEncode[M any](t *testing.T, s side[M], m M, want []byte) {
	t.Helper()
	if b, err := s.encode(m); err != api.OK || !bytes.Equal(b, want) {
		t.Errorf("%+v: %v, %v; want %v", m, b, err, want)
	}
}

func mustNotEncode[M any](t *testing.T, s side[M], m M) {
	t.Helper()
	if b, err := s.encode(m); err != api.ErrArg || b != nil {
		t.Errorf("%+v: %v, %v; want nothing and %v", m, b, err, api.ErrArg)
	}
}

func mustDecode[M any](t *testing.T, s side[M], b []byte, want M) {
	t.Helper()
	if m, err := s.decode(b); err != api.OK || !s.same(m, want) {
		t.Errorf("%v: %+v, %v; want %+v", b, m, err, want)
	}
}

func mustNotDecode[M any](t *testing.T, s side[M], b []byte, want api.Errno) {
	t.Helper()
	if m, err := s.decode(b); err != want || !nothing(m) {
		t.Errorf("%v: %+v, %v; want nothing and %v", b, m, err, want)
	}
}

// P7.2, P7.3

var requestBytes = []struct {
	q api.Request
	b []byte
}{
	{api.Request{Kind: api.ReqHello, ID: 1, Version: 1}, []byte{1, 0, 0, 0, 1, 1}},
	{api.Request{Kind: api.ReqLoad, ID: 2, Model: []byte{9, 0, 8}}, []byte{2, 0, 0, 0, 2, 9, 0, 8}},
	{
		api.Request{Kind: api.ReqInject, ID: 0x01020304, Event: api.Event{Key: api.Key{Time: 0x0102030405060708}, To: 2, Kind: 3, Data: -2}},
		[]byte{3, 1, 2, 3, 4, 1, 2, 3, 4, 5, 6, 7, 8, 2, 3, 255, 255, 255, 255, 255, 255, 255, 254},
	},
	{
		api.Request{Kind: api.ReqBreak, ID: 3, Number: 0xFFFEFDFC, Break: api.Break{Proc: 4, Kind: 5, Time: 6}},
		[]byte{4, 0, 0, 0, 3, 255, 254, 253, 252, 4, 5, 0, 0, 0, 0, 0, 0, 0, 6},
	},
	{
		api.Request{Kind: api.ReqBreak, Break: api.Break{Kind: -1, Time: -1}},
		[]byte{4, 0, 0, 0, 0, 0, 0, 0, 0, 0, 255, 255, 255, 255, 255, 255, 255, 255, 255},
	},
	{api.Request{Kind: api.ReqBreak, Break: api.Break{Kind: 254}}, []byte{4, 0, 0, 0, 0, 0, 0, 0, 0, 0, 254, 0, 0, 0, 0, 0, 0, 0, 0}},
	{api.Request{Kind: api.ReqClear, ID: 4, Number: 513}, []byte{5, 0, 0, 0, 4, 0, 0, 2, 1}},
	{api.Request{Kind: api.ReqQuery, ID: 5, Proc: 255}, []byte{6, 0, 0, 0, 5, 255}},
	{api.Request{Kind: api.ReqPause, ID: 258}, []byte{7, 0, 0, 1, 2}},
	{api.Request{Kind: api.ReqResume, ID: 0xFFFFFFFF}, []byte{8, 255, 255, 255, 255}},
	{api.Request{Kind: api.ReqStep}, []byte{9, 0, 0, 0, 0}},
	{
		api.Request{Kind: api.ReqRate, ID: 6, Num: -1 << 63, Den: 1<<63 - 1},
		[]byte{10, 0, 0, 0, 6, 128, 0, 0, 0, 0, 0, 0, 0, 127, 255, 255, 255, 255, 255, 255, 255},
	},
	{api.Request{Kind: api.ReqSubscribe, ID: 1 << 31}, []byte{11, 128, 0, 0, 0}},
	{api.Request{Kind: api.ReqBye, ID: 7}, []byte{12, 0, 0, 0, 7}},
}

var responseBytes = []struct {
	p api.Response
	b []byte
}{
	{api.Response{Kind: api.ResDone, ID: 258, Err: api.ErrTime, Floor: -1}, []byte{1, 0, 0, 1, 2, 8, 255, 255, 255, 255, 255, 255, 255, 255}},
	{api.Response{Kind: api.ResDone}, []byte{1, 0, 0, 0, 0, 0, 0, 0, 0, 0, 0, 0, 0, 0}},
	{
		api.Response{Kind: api.ResState, ID: 1, Floor: 0x0102030405060708, Vars: []int64{-2, 256}},
		[]byte{2, 0, 0, 0, 1, 1, 2, 3, 4, 5, 6, 7, 8, 2, 255, 255, 255, 255, 255, 255, 255, 254, 0, 0, 0, 0, 0, 0, 1, 0},
	},
	{api.Response{Kind: api.ResState, ID: 2, Floor: 3}, []byte{2, 0, 0, 0, 2, 0, 0, 0, 0, 0, 0, 0, 3, 0}},
	{
		api.Response{Kind: api.ResRecord, Record: api.Record{Key: api.Key{Time: 10, Origin: 17, Seq: 1 << 62}, Proc: 2, Nth: 3, Value: -1}},
		[]byte{3, 0, 0, 0, 0, 0, 0, 0, 10, 17, 64, 0, 0, 0, 0, 0, 0, 0, 2, 3, 255, 255, 255, 255, 255, 255, 255, 255},
	},
	{
		api.Response{Kind: api.ResHit, Number: 0x01020304, Event: api.Event{Key: api.Key{Time: 1 << 40, Origin: 5, Seq: 6}, To: 7, Kind: 8, Data: 9}},
		[]byte{4, 1, 2, 3, 4, 0, 0, 1, 0, 0, 0, 0, 0, 5, 0, 0, 0, 0, 0, 0, 0, 6, 7, 8, 0, 0, 0, 0, 0, 0, 0, 9},
	},
	{api.Response{Kind: api.ResError, Err: api.ErrSum}, []byte{5, 11}},
	{api.Response{Kind: api.ResError}, []byte{5, 0}},
}

func TestBytesThatTheDocumentSays(t *testing.T) {
	for _, x := range requestBytes {
		mustEncode(t, requests(), x.q, x.b)
		mustDecode(t, requests(), x.b, x.q)
	}
	for _, x := range responseBytes {
		mustEncode(t, responses(), x.p, x.b)
		mustDecode(t, responses(), x.b, x.p)
	}
}

func testThereAndBack[M any](t *testing.T, s side[M]) {
	for _, m := range s.mayBe() {
		b := s.byWords(m)
		mustEncode(t, s, m, b)
		mustDecode(t, s, b, m)
	}
}

func TestThereAndBack(t *testing.T) {
	both(t, testThereAndBack, testThereAndBack)
}

func testNoBytes[M any](t *testing.T, s side[M]) {
	for _, m := range s.mayNotBe() {
		mustNotEncode(t, s, m)
	}
}

func TestNoBytesOfWhatMayNotBe(t *testing.T) {
	both(t, testNoBytes, testNoBytes)
}

func testNoTags[M any](t *testing.T, s side[M]) {
	mustNotDecode(t, s, nil, api.ErrTag)
	mustNotDecode(t, s, []byte{}, api.ErrTag)
	for tag := range 256 {
		if s.names[tag] != nil {
			continue
		}
		for _, behind := range [][]byte{nil, {0}, {0, 0, 0, 1}, {255, 255, 255, 255, 255}, make([]byte, 13), make([]byte, 5000)} {
			mustNotDecode(t, s, append([]byte{byte(tag)}, behind...), api.ErrTag)
		}
	}
}

func TestTagsOfNoMessage(t *testing.T) {
	both(t, testNoTags, testNoTags)
}

// testLengths cuts messages whose length hangs on their kind alone, or on a count that they tell.
func testLengths[M any](t *testing.T, s side[M]) {
	for _, m := range s.mayBe() {
		b := s.byWords(m)
		if slices.Contains(s.names[int(b[0])], "Model") {
			continue
		}
		for n := 1; n < len(b); n++ {
			mustNotDecode(t, s, b[:n], api.ErrField)
		}
		for _, behind := range [][]byte{{0}, {1}, {255}, make([]byte, 8), b, make([]byte, 5000)} {
			mustNotDecode(t, s, slices.Concat(b, behind), api.ErrField)
		}
	}
}

func TestTooFewBytesAndTooMany(t *testing.T) {
	both(t, testLengths, testLengths)
}

func TestBytesOfModels(t *testing.T) {
	load := []byte{2, 0, 0, 1, 2}
	for n := 1; n <= len(load); n++ {
		mustNotDecode(t, requests(), load[:n], api.ErrField)
	}
	for _, n := range []int{1, 2, 3, 100, api.MaxFrame - 6, api.MaxFrame - 5} {
		mustDecode(t, requests(), append(load[:5:5], model(n)...), api.Request{Kind: api.ReqLoad, ID: 258, Model: model(n)})
	}
	for _, n := range []int{api.MaxFrame - 4, api.MaxFrame, 2 * api.MaxFrame, 1 << 20} {
		mustNotDecode(t, requests(), append(load[:5:5], model(n)...), api.ErrField)
	}
}

func TestBytesOfErrors(t *testing.T) {
	for n := range 256 {
		done, failed := []byte{1, 0, 0, 0, 1, byte(n), 0, 0, 0, 0, 0, 0, 0, 2}, []byte{5, byte(n)}
		if n > int(api.ErrSkip) {
			mustNotDecode(t, responses(), done, api.ErrField)
			mustNotDecode(t, responses(), failed, api.ErrField)
			continue
		}
		mustDecode(t, responses(), done, api.Response{Kind: api.ResDone, ID: 1, Err: api.Errno(n), Floor: 2})
		mustDecode(t, responses(), failed, api.Response{Kind: api.ResError, Err: api.Errno(n)})
	}
}

func TestBytesOfNumbersOfAState(t *testing.T) {
	for told := range 256 {
		for there := range 12 {
			b := append([]byte{2, 0, 0, 0, 1, 0, 0, 0, 0, 0, 0, 0, 2, byte(told)}, make([]byte, 8*there)...)
			if told > api.MaxVars || told != there {
				mustNotDecode(t, responses(), b, api.ErrField)
				continue
			}
			mustDecode(t, responses(), b, api.Response{Kind: api.ResState, ID: 1, Floor: 2, Vars: make([]int64, there)})
		}
		whole := append([]byte{2, 0, 0, 0, 1, 0, 0, 0, 0, 0, 0, 0, 2, byte(told)}, make([]byte, 8*told)...)
		if told > api.MaxVars {
			mustNotDecode(t, responses(), whole, api.ErrField)
		}
	}
}

func TestBytesOfABreaksKind(t *testing.T) {
	for n := range 256 {
		want := api.Request{Kind: api.ReqBreak, Break: api.Break{Kind: n}}
		if n == 255 {
			want.Break.Kind = -1
		}
		mustDecode(t, requests(), []byte{4, 0, 0, 0, 0, 0, 0, 0, 0, 0, byte(n), 0, 0, 0, 0, 0, 0, 0, 0}, want)
	}
}

// testGiven looks at the message that was handed in, and at the bytes that were answered, when either is changed.
func testGiven[M any](t *testing.T, s side[M], m func() M, spoil func(m *M)) {
	given := m()
	b, err := s.encode(given)
	if err != api.OK || !reflect.DeepEqual(given, m()) {
		t.Fatalf("%v: %+v was changed to %+v", err, m(), given)
	}
	want := s.byWords(given)
	clear(b[:cap(b)])
	if !reflect.DeepEqual(given, m()) {
		t.Errorf("%+v was changed through its bytes to %+v", m(), given)
	}
	b, _ = s.encode(given)
	spoil(&given)
	if !bytes.Equal(b, want) {
		t.Errorf("%v were changed through their message to %v", want, b)
	}
}

// testRead looks at the bytes that were handed in, and at the message that was answered, when either is changed.
func testRead[M any](t *testing.T, s side[M], m func() M, spoil func(m *M)) {
	want := s.byWords(m())
	b := slices.Clip(slices.Clone(want))
	read, _ := s.decode(b)
	again, _ := s.decode(b)
	if !bytes.Equal(b, want) {
		t.Fatalf("%v were changed to %v", want, b)
	}
	spoil(&read)
	if !bytes.Equal(b, want) || !s.same(again, m()) {
		t.Errorf("%v were changed through their message, or %+v", want, again)
	}
	clear(b)
	if !s.same(again, m()) {
		t.Errorf("%+v was changed through its bytes to %+v", m(), again)
	}
}

func TestNothingIsShared(t *testing.T) {
	load := func() api.Request { return api.Request{Kind: api.ReqLoad, ID: 7, Model: model(20)} }
	spoilModel := func(q *api.Request) {
		clear(q.Model)
		_ = append(q.Model, 1, 2, 3)
	}
	testGiven(t, requests(), load, spoilModel)
	testRead(t, requests(), load, spoilModel)
	state := func() api.Response { return api.Response{Kind: api.ResState, ID: 7, Vars: numbers(5)} }
	spoilVars := func(p *api.Response) {
		clear(p.Vars)
		_ = append(p.Vars, 1, 2, 3)
	}
	testGiven(t, responses(), state, spoilVars)
	testRead(t, responses(), state, spoilVars)
}

func TestWhatStandsBehindAListIsLetBe(t *testing.T) {
	behind := append(model(10), "let be"...)
	q := api.Request{Kind: api.ReqLoad, Model: behind[:10]}
	message.EncodeRequest(q)
	message.Requests(q)
	if string(behind[10:]) != "let be" {
		t.Errorf("behind the model: %q", behind[10:])
	}
	numbered := numbers(8)
	p := api.Response{Kind: api.ResState, Vars: numbered[:4]}
	message.EncodeResponse(p)
	message.Responses(p)
	if !slices.Equal(numbered, numbers(8)) {
		t.Errorf("behind the numbers: %v", numbered)
	}
	b := append([]byte{2, 0, 0, 0, 1, 7}, "let be"...)
	message.DecodeRequest(b[:6])
	if string(b[6:]) != "let be" {
		t.Errorf("behind the bytes: %q", b[6:])
	}
}
