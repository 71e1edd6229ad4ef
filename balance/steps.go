package balance

import (
	"strings"

	"sieve/api"
	"sieve/names"
	"sieve/nest"
)

// take does what is done with a token that may be.
func (b *Balancer) take(t api.Token) {
	switch t.Kind {
	case api.TokenStart:
		b.start(t)
	case api.TokenText:
		b.text(t)
	case api.TokenEnd:
		b.end(t)
	case api.TokenComment, api.TokenDoctype:
		// No event stands for these.
	}
}

// finish closes all that is open; it is over.
func (b *Balancer) finish() {
	b.close(len(b.names))
	b.over = true
}

// start: an element is opened, or stands, or is too deep.
func (b *Balancer) start(t api.Token) {
	if !names.In(t.Name, api.SetAllow) {
		b.find(t.At, api.WhyElement, t.Name)
		return
	}
	void := names.In(t.Name, api.SetVoid)
	// The stack is right at all times, and the name is asked for above: neither here nor below does nest answer an error.
	plan, _ := nest.Open(b.names, t.Name)
	switch {
	case b.behind(plan)+1 > b.depth:
		b.find(t.At, api.WhyDepth, t.Name)
		if !void { // a void element has no end tag to wait for
			b.ghosts.add(t.Name)
		}
	case void:
		b.follow(plan, t.At)
		b.stand(api.Event{Kind: api.EventVoid, Name: t.Name, Attrs: own(t.Attrs)})
	default:
		b.follow(plan, t.At)
		b.open(t.Name, own(t.Attrs))
	}
}

// text: a text stands, is dropped, or is too deep.
func (b *Balancer) text(t api.Token) {
	text := t.Text
	if b.fresh {
		text = strings.TrimLeft(text, "\n")
	}
	if text == "" {
		return
	}
	plan, _ := nest.Text(b.names, names.Trim(text) == "")
	switch {
	case plan.Drop:
	case b.behind(plan) > b.depth:
		b.find(t.At, api.WhyDepth, "")
	default:
		b.follow(plan, t.At)
		b.stand(api.Event{Kind: api.EventText, Text: text})
	}
}

// end: a ghost ends, or elements are closed, or it is the end of nothing.
func (b *Balancer) end(t api.Token) {
	if b.ghosts.end(t.Name) {
		return
	}
	n, _ := nest.End(b.names, t.Name)
	if n == 0 {
		b.find(t.At, api.WhyStray, t.Name)
	}
	b.close(n)
}

// behind: how many elements would be open behind a plan.
func (b *Balancer) behind(p api.Plan) int { return len(b.names) - p.Close + len(p.Insert) }

// follow closes what a plan closes, and opens what it puts in.
func (b *Balancer) follow(p api.Plan, at api.Place) {
	b.close(p.Close)
	for _, name := range p.Insert {
		b.find(at, api.WhyImplied, name)
		b.open(name, nil)
	}
}

// own: attributes in new memory.
func own(l []api.Attr) []api.Attr { return append([]api.Attr(nil), l...) }
