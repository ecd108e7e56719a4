package message

import "riffle/api"

const (
	maxByte  = 255
	maxModel = api.MaxFrame - 5 // its kind and its ID stand ahead of it
	anyKind  = -1
	anyByte  = 255 // the byte of anyKind
)

func requests() grammar[api.ReqKind, api.Request] {
	return grammar[api.ReqKind, api.Request]{
		kind: func(q *api.Request) *api.ReqKind { return &q.Kind },
		fields: map[api.ReqKind][]func(wire, *api.Request){
			api.ReqHello:     {requestID, version},
			api.ReqLoad:      {requestID, model},
			api.ReqInject:    {requestID, requestEvent},
			api.ReqBreak:     {requestID, requestNumber, breakpoint},
			api.ReqClear:     {requestID, requestNumber},
			api.ReqQuery:     {requestID, proc},
			api.ReqPause:     {requestID},
			api.ReqResume:    {requestID},
			api.ReqStep:      {requestID},
			api.ReqRate:      {requestID, rate},
			api.ReqSubscribe: {requestID},
			api.ReqBye:       {requestID},
		},
		same: SameRequest,
	}
}

func responses() grammar[api.ResKind, api.Response] {
	return grammar[api.ResKind, api.Response]{
		kind: func(p *api.Response) *api.ResKind { return &p.Kind },
		fields: map[api.ResKind][]func(wire, *api.Response){
			api.ResDone:   {responseID, failure, floor},
			api.ResState:  {responseID, floor, vars},
			api.ResRecord: {record},
			api.ResHit:    {responseNumber, responseEvent},
			api.ResError:  {failure},
		},
		same: SameResponse,
	}
}

func requestID(w wire, q *api.Request)     { word(w, &q.ID) }
func requestNumber(w wire, q *api.Request) { word(w, &q.Number) }
func version(w wire, q *api.Request)       { octet(w, &q.Version, maxByte) }
func proc(w wire, q *api.Request)          { octet(w, &q.Proc, maxByte) }
func model(w wire, q *api.Request)         { q.Model = w.rest(q.Model, maxModel) }

func requestEvent(w wire, q *api.Request) {
	whole(w, &q.Event.Time)
	content(w, &q.Event)
}

func breakpoint(w wire, q *api.Request) {
	octet(w, &q.Break.Proc, maxByte)
	kindOrAny(w, &q.Break.Kind)
	whole(w, &q.Break.Time)
}

func rate(w wire, q *api.Request) {
	whole(w, &q.Num)
	whole(w, &q.Den)
}

func responseID(w wire, p *api.Response)     { word(w, &p.ID) }
func responseNumber(w wire, p *api.Response) { word(w, &p.Number) }
func failure(w wire, p *api.Response)        { octet(w, &p.Err, api.ErrSkip) }
func floor(w wire, p *api.Response)          { whole(w, &p.Floor) }

// vars takes a list of its own: the one that a message brings along is somebody else's.
func vars(w wire, p *api.Response) {
	n := len(p.Vars)
	octet(w, &n, api.MaxVars)
	l := make([]int64, n)
	copy(l, p.Vars)
	for i := range l {
		whole(w, &l[i])
	}
	p.Vars = l
}

func record(w wire, p *api.Response) {
	key(w, &p.Record.Key)
	octet(w, &p.Record.Proc, maxByte)
	octet(w, &p.Record.Nth, maxByte)
	whole(w, &p.Record.Value)
}

func responseEvent(w wire, p *api.Response) {
	key(w, &p.Event.Key)
	content(w, &p.Event)
}

func key(w wire, k *api.Key) {
	whole(w, &k.Time)
	octet(w, &k.Origin, maxByte)
	whole(w, &k.Seq)
}

// content is what an event has besides its key.
func content(w wire, e *api.Event) {
	octet(w, &e.To, maxByte)
	octet(w, &e.Kind, maxByte)
	whole(w, &e.Data)
}

// kindOrAny is a kind, or any one; a kind whose byte is that of any one can't be told.
func kindOrAny(w wire, kind *int) {
	must(*kind != anyByte)
	if *kind == anyKind {
		*kind = anyByte
	}
	octet(w, kind, maxByte)
	if *kind == anyByte {
		*kind = anyKind
	}
}

// octet is a number of one byte, from 0 to most.
func octet[N ~int](w wire, n *N, most N) {
	*n = N(w.number(uint64(*n), 1))
	must(*n >= 0 && *n <= most)
}

func word(w wire, n *uint32) {
	*n = uint32(w.number(uint64(*n), 4))
}

func whole(w wire, n *int64) {
	*n = int64(w.number(uint64(*n), 8))
}
