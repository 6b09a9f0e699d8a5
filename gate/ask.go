package gate

import (
	"jalousie/api"
	"jalousie/label"
	"jalousie/policy"
	"jalousie/text"
	"jalousie/wire"
)

// unnamed is what the log has where there is no name.
const unnamed = "-"

// ask is a request as it came: what can be read of it, and what is known of its user.
type ask struct {
	name    string
	user    api.User // The zero one, whose clearance is the bottom, if the policy has none of that name.
	known   bool
	request api.Request // The zero one, which names nothing, if it can't be read.
	fault   api.Errno   // Why it can't be read.
}

// read is a user's request.
func (in *inside) read(name string, b []byte) ask {
	user, known := policy.Find(in.policy, name)
	r, e := wire.Parse(b)
	return ask{name: name, user: user, known: known, request: r, fault: e}
}

// cleared: may the user read what the label that is named does?
func (a ask) cleared() bool {
	return a.known && label.Below(a.request.Label, a.user.Clear)
}

// effective is the label that counts: one that was not cleared tells nothing that others may not know.
func (a ask) effective() api.Label {
	if a.fault == api.OK && a.cleared() {
		return a.request.Label
	}
	return a.user.Clear
}

// denied: is a request that was read above what its user may do?
func (a ask) denied() bool {
	return !a.cleared() || !a.user.Admin && isOfAdmins(a.request.Verb)
}

// isOfAdmins: may admins alone ask for that?
func isOfAdmins(v api.Verb) bool {
	return v == api.Ingest || v == api.Export
}

// entry is what the log says of a request.
func (a ask) entry(e api.Errno) api.Entry {
	return api.Entry{
		User:    named(a.name),
		Label:   a.effective(),
		Verb:    named(wire.Word(a.request.Verb)),
		File:    named(a.request.File),
		Outcome: wire.Code(e),
	}
}

// named is a name, or what the log has for none.
func named(s string) string {
	if text.Name(s) {
		return s
	}
	return unnamed
}
