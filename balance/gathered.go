package balance

import "sieve/api"

// gathered is what is told, till it is handed out.
type gathered struct {
	events []api.Event
	found  []api.Finding
}

// tell tells an event.
func (g *gathered) tell(e api.Event) { g.events = append(g.events, e) }

// find tells a finding.
func (g *gathered) find(at api.Place, why api.Why, name string) {
	g.found = append(g.found, api.Finding{At: at, Why: why, Name: name})
}

// handOut hands out what was told so far. What is told later may stand in the room behind it: its own room ends where it
// ends, so that both go on growing apart.
func (g *gathered) handOut() ([]api.Event, []api.Finding) {
	e, f := len(g.events), len(g.found)
	events, found := g.events[:e:e], g.found[:f:f]
	g.events, g.found = g.events[e:], g.found[f:]
	return events, found
}
