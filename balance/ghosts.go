package balance

// ghosts are the names of what was begun, but is too deep.
type ghosts struct {
	names []string
	times map[string]int // how often each stands there: the end tag of none need not go through all of them
}

// add adds one, behind the others.
func (g *ghosts) add(name string) {
	if g.times == nil {
		g.times = map[string]int{}
	}
	g.names = append(g.names, name)
	g.times[name]++
}

// end ends the last one of a name, with those behind it, and tells whether there is one.
func (g *ghosts) end(name string) bool {
	if g.times[name] == 0 {
		return false
	}
	for {
		last := len(g.names) - 1
		ended := g.names[last]
		g.names = g.names[:last]
		g.times[ended]--
		if ended == name {
			return true
		}
	}
}
