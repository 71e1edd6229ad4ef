package nest

// top: the name of the topmost element; none of an empty stack.
func (t *table) top() string {
	if len(t.left) == 0 {
		return ""
	}
	return t.left[len(t.left)-1]
}

// closeWith closes all from a place on, and tells whether there is one.
func (t *table) closeWith(at int) bool {
	if at >= 0 {
		t.left = t.left[:at]
	}
	return at >= 0
}

// closeTo closes all above a place, and tells whether there is one.
func (t *table) closeTo(at int) bool {
	return at >= 0 && t.closeWith(at+1)
}

// put puts an element in.
func (t *table) put(name string) { t.in = append(t.in, name) }

// closeLike closes what a name does not stand in: an a in an a, a heading in a heading, a block in a p.
func (t *table) closeLike(l look) {
	if l.name == "a" {
		t.closeWith(find(t.left, is(l.name), cell))
	}
	if l.heading {
		t.closeWith(find(t.left, t.heading, wall))
	}
	if l.block {
		t.closeP()
	}
}

// closeP closes the p above the topmost wall.
func (t *table) closeP() { t.closeWith(find(t.left, is("p"), t.edge)) }

// stand puts in what goes between the top and all that has no place of its own.
func (t *table) stand() {
	switch t.top() {
	case "colgroup":
		t.closeWith(len(t.left) - 1)
		fallthrough
	case "table":
		t.put("tbody")
		fallthrough
	case "thead", "tbody", "tfoot":
		t.put("tr")
		fallthrough
	case "tr":
		t.put("td")
	case "ul", "ol", "menu":
		t.put("li")
	case "dl":
		t.put("dd")
	}
}

// item: li stands on a list.
func (t *table) item() { t.within(list, "ul") }

// term: dt and dd stand on dl.
func (t *table) term() { t.within(is("dl"), "dl") }

// within closes to what a name stands on, if that is above the topmost wall; else puts one in.
func (t *table) within(on func(name string) bool, one string) {
	if !t.closeTo(find(t.left, on, wall)) {
		t.stand()
		t.put(one)
	}
}

// part: caption, colgroup and the groups stand on table.
func (t *table) part() { t.tabled(is("table")) }

// column: col stands on colgroup.
func (t *table) column() {
	if !t.closeTo(find(t.left, is("colgroup"), is("table"))) {
		t.tabled(is("table"))
		t.put("colgroup")
	}
}

// row: tr stands on a group.
func (t *table) row() {
	if t.tabled(body) == "table" {
		t.put("tbody")
	}
}

// cell: td and th stand on tr.
func (t *table) cell() {
	switch t.tabled(row) {
	case "table":
		t.put("tbody")
		fallthrough
	case "thead", "tbody", "tfoot":
		t.put("tr")
	}
}

// tabled closes to the topmost of some parts of a table, and tells which one that is; where there is none, it puts a table in.
func (t *table) tabled(on func(name string) bool) string {
	if t.closeTo(find(t.left, on, never)) {
		return t.top()
	}
	t.closeP()
	t.stand()
	t.put("table")
	return "table"
}
