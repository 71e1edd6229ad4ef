package nest_test

import (
	"strings"
	"testing"

	"sieve/api"
	"sieve/nest"
)

// P16.2: the chapter's examples.
func TestTextExamples(t *testing.T) {
	if p, e := nest.Text(l("ul"), true); showPlan(p) != showPlan(api.Plan{Drop: true}) || e != api.OK {
		t.Errorf("blank: %s, %d", showPlan(p), e)
	}
	if p, e := nest.Text(l("ul"), false); showPlan(p) != showPlan(api.Plan{Insert: l("li")}) || e != api.OK {
		t.Errorf("text: %s, %d", showPlan(p), e)
	}
}

// P16.2: texts on every kind of top; where something is asked, a blank one is dropped, and nothing else.
func TestTextTops(t *testing.T) {
	for line, want := range map[string]api.Plan{
		"table colgroup": {Close: 1, Insert: l("tbody", "tr", "td")},
		"table":          {Insert: l("tbody", "tr", "td")},
		"table thead":    {Insert: l("tr", "td")},
		"table tbody":    {Insert: l("tr", "td")},
		"table tfoot":    {Insert: l("tr", "td")},
		"table tbody tr": {Insert: l("td")},
		"ul":             {Insert: l("li")},
		"div ol":         {Insert: l("li")},
		"ul li menu":     {Insert: l("li")},
		"dl":             {Insert: l("dd")},
	} {
		if p, e := nest.Text(strings.Fields(line), false); showPlan(p) != showPlan(want) || e != api.OK {
			t.Errorf("%s: %s, %d", line, showPlan(p), e)
		}
		if p, e := nest.Text(strings.Fields(line), true); showPlan(p) != showPlan(api.Plan{Drop: true}) || e != api.OK {
			t.Errorf("%s, blank: %s, %d", line, showPlan(p), e)
		}
	}
	for _, line := range []string{"", "textarea", "p textarea", "p", "a", "h1", "pre", "div", "ul li", "dl dt", "dl dd", "table caption", "table tbody tr td", "table tbody tr th", "table tbody tr td b"} {
		for _, blank := range []bool{false, true} {
			if p, e := nest.Text(strings.Fields(line), blank); showPlan(p) != showPlan(api.Plan{}) || e != api.OK {
				t.Errorf("%s, %v: %s, %d", line, blank, showPlan(p), e)
			}
		}
	}
}

// P16.2: stacks that are not right.
func TestTextErrors(t *testing.T) {
	for _, line := range []string{"script", "br", "p div", "textarea b", "table tr", "li", "ul b"} {
		for _, blank := range []bool{false, true} {
			if p, e := nest.Text(strings.Fields(line), blank); showPlan(p) != showPlan(api.Plan{}) || e != api.ErrNestStack {
				t.Errorf("%s, %v: %s, %d", line, blank, showPlan(p), e)
			}
		}
	}
}
