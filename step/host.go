package step

import (
	"stockpot/api"
	"stockpot/data"
)

// host is what one of the host's calls asks.
func (s spot) host() deed {
	switch s.i.A {
	case api.HEmit:
		return s.emit()
	case api.HLog:
		return s.log()
	case api.HSend:
		return s.send()
	}
	return s.recv()
}

func (s spot) emit() deed {
	n, ok := number(s.taken()[0])
	if !ok {
		return broken()
	}
	return asks{ask: api.Ask{Call: api.HEmit, N: n}}
}

func (s spot) log() deed {
	o, ok := s.object(s.taken()[0], api.Str)
	if !ok {
		return broken()
	}
	return asks{ask: api.Ask{Call: api.HLog, Text: o.Text}}
}

func (s spot) send() deed {
	n, ok := number(s.taken()[0])
	if !ok {
		return broken()
	}
	mail, ok := data.Out(s.a, s.m.Heap, s.taken()[1])
	if !ok {
		return s.leaveNumber(0)
	}
	return asks{ask: api.Ask{Call: api.HSend, N: n, Mail: mail}}
}

func (s spot) recv() deed {
	if s.full() {
		return deep()
	}
	return asks{ask: api.Ask{Call: api.HRecv, Form: s.i.B}}
}

// replied is what the reply to that ask does.
func (s spot) replied(q api.Ask, r api.Reply) deed {
	switch q.Call {
	case api.HSend:
		return s.leaveWhether(r.N != 0)
	case api.HRecv:
		return s.received(q.Form, r)
	}
	return s.leaveNumber(0)
}

// received is what the reply to a recv of that form does.
func (s spot) received(form int, r api.Reply) deed {
	if r.None {
		return stays{state: api.Blocked}
	}
	if !data.Fits(s.p.Forms, form, r.Mail) {
		return raises{code: api.RShape}
	}
	return receives{mail: r.Mail}
}
