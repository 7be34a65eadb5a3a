package tabs

import (
	"strings"

	"gatepost/api"
	"gatepost/fresh"
)

// freshEvent is an Event that shares nothing with e.
func freshEvent(e Event) Event {
	e.Op, e.Reply = freshOp(e.Op), freshReply(e.Reply)
	return e
}

// freshOp is an operation that shares nothing with o.
func freshOp(o api.Op) api.Op {
	o.Req = freshRequest(o.Req)
	o.Text, o.Cnonce = strings.Clone(o.Text), strings.Clone(o.Cnonce)
	o.Creds = api.Creds{User: strings.Clone(o.Creds.User), Pass: strings.Clone(o.Creds.Pass)}
	return o
}

// freshRequest is a request that shares nothing with r.
func freshRequest(r api.Request) api.Request {
	r.From, r.URL = fresh.Origin(r.From), fresh.URL(r.URL)
	r.Method, r.Body = strings.Clone(r.Method), strings.Clone(r.Body)
	r.Heads = fresh.Each(r.Heads, freshParam)
	return r
}

// freshParam is a Param that shares nothing with p.
func freshParam(p api.Param) api.Param {
	return api.Param{Name: strings.Clone(p.Name), Value: strings.Clone(p.Value)}
}

// freshReply is a Reply that shares nothing with r.
func freshReply(r api.Reply) api.Reply {
	r.Head = strings.Clone(r.Head)
	return r
}
