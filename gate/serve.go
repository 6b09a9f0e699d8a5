package gate

import (
	"jalousie/api"
	"jalousie/label"
	"jalousie/policy"
	"jalousie/text"
	"jalousie/wire"
)

const (
	blank   = " "
	newline = "\n"
)

// do answers a request, and notes that in the log.
func (in *inside) do(a ask) []byte {
	// What is refused here can't be noted, since there is no room for it.
	if !a.user.Admin && in.log.Full(a.effective(), in.policy.Log) {
		return refused(api.ErrFull)
	}
	r := in.answer(a)
	in.log.Add(a.entry(r.Errno))
	return wire.Answer(r)
}

// answer is what is answered where there is room in the log.
func (in *inside) answer(a ask) api.Response {
	if a.fault != api.OK {
		return api.Response{Errno: a.fault}
	}
	if a.denied() {
		return api.Response{Errno: api.ErrDenied}
	}
	b, e := in.serve(a.request)
	return api.Response{Errno: e, Body: b}
}

// serve is what the desk says, or the log. With an error there is no body, but the one that it tells itself.
func (in *inside) serve(r api.Request) ([]byte, api.Errno) {
	switch r.Verb {
	case api.List:
		return rows(in.Names(r.Label), func(_ int, name string) string { return name }), api.OK
	case api.Log:
		l, e := in.Log(r.File, r.Label)
		return rows(l, func(i int, a api.Label) string { return text.Decimal(i) + blank + label.Print(a) }), e
	case api.Cat:
		l, e := in.Cat(r.File, r.Label, r.A)
		return text.Join(l), e
	case api.Labels:
		l, e := in.Labels(r.File, r.Label, r.A)
		return rows(l, func(_ int, a api.Label) string { return label.Print(a) }), e
	case api.Diff:
		return in.Diff(r.File, r.Label, r.A, r.B, r.C)
	case api.Preview:
		// With ErrClash these lines tell all three texts.
		l, e := in.Preview(r.File, r.Label, r.A, r.Body)
		return text.Join(l), e
	case api.Submit:
		return in.submit(r)
	case api.Audit:
		return in.log.Print(r.Label), api.OK
	case api.Ingest:
		return nil, in.ingest(r)
	case api.Export:
		return in.Export(r.File, r.Label)
	case api.Rank:
		return in.Rank(r.File, r.Label)
	}
	// wire reads no other verb.
	return nil, api.ErrForm
}

// submit is the number that the new commit has at the label that is named.
func (in *inside) submit(r api.Request) ([]byte, api.Errno) {
	n, e := in.Submit(r.File, r.Label, r.A, r.Body)
	if e != api.OK {
		return nil, e
	}
	return []byte(text.Decimal(n) + newline), api.OK
}

// ingest has a file be there; the desk is not asked of one that would not be seen, since it would tell whether that is there.
func (in *inside) ingest(r api.Request) api.Errno {
	if !label.Below(policy.Floor(in.policy, r.File), r.Label) {
		return api.ErrGone
	}
	return in.Ingest(r.File, r.Body)
}

// rows is a line of each.
func rows[E any](l []E, tell func(i int, one E) string) []byte {
	var b []byte
	for i, one := range l {
		b = append(b, tell(i, one)+newline...)
	}
	return b
}
