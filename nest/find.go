package nest

import "slices"

// find: where the topmost one of those that are sought stands, if none that stops the search stands above it; else -1.
func find(stack []string, sought, stop func(name string) bool) int {
	for at, name := range slices.Backward(stack) {
		if sought(name) {
			return at
		}
		if stop(name) {
			return -1
		}
	}
	return -1
}

// is tells one name from all others.
func is(one string) func(name string) bool {
	return func(name string) bool { return name == one }
}

// never: nothing stops the search.
func never(name string) bool { return false }

// cell: is it a cell?
func cell(name string) bool { return name == "td" || name == "th" || name == "caption" }

// wall: is it a wall?
func wall(name string) bool { return cell(name) || name == "table" }

// list: is it a list?
func list(name string) bool { return name == "ul" || name == "ol" || name == "menu" }

// body: is it a group or a table?
func body(name string) bool {
	switch name {
	case "thead", "tbody", "tfoot", "table":
		return true
	}
	return false
}

// row: is it tr, a group or a table?
func row(name string) bool { return name == "tr" || body(name) }

// heading: is it a heading?
func (t *table) heading(name string) bool { return t.look(name).heading }

// edge: does no p stand below it, up to the topmost wall? No p of a right stack has a block above it but behind a wall, so
// that deep stacks need not be searched to their ends.
func (t *table) edge(name string) bool { return wall(name) || t.look(name).block }
