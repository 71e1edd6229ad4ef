package policy_test

import (
	"strings"
	"testing"

	"sieve/api"
	"sieve/policy"
)

// The presets, by hand.
const (
	basicText = "depth 32\nwindow 4096\nelement b\nelement br\nelement code\nelement em\nelement i\nelement p\nelement strong\n"
	richText  = `depth 64
window 65536
relative
scheme http
scheme https
scheme mailto
global class tokens
global lang lang
element a
attr href link
attr title any
element b
element blockquote
attr cite link
element br
element code
element em
element h1
element h2
element h3
element h4
element h5
element h6
element hr
element i
element img
attr alt any
attr height length
attr src link
attr width length
element li
element ol
attr start number
element p
element pre
element strong
element ul
`
	fullHead = `depth 256
window 65536
relative
scheme http
scheme https
scheme mailto
drop math
drop select
drop svg
drop template
global class tokens
global dir oneof auto ltr rtl
global id name
global lang lang
global title any
`
)

// fullText: the text of the full preset, by hand.
func fullText() string {
	own := map[string]string{
		"a":          "attr href link\n",
		"blockquote": "attr cite link\n",
		"del":        "attr cite link\n",
		"ins":        "attr cite link\n",
		"q":          "attr cite link\n",
		"img":        "attr alt any\nattr height length\nattr src link\nattr width length\n",
		"ol":         "attr start number\n",
		"td":         "attr colspan number\nattr rowspan number\n",
		"th":         "attr colspan number\nattr rowspan number\n",
		"time":       "attr datetime any\n",
		"data":       "attr value any\n",
	}
	all := map[string]bool{}
	for _, name := range strings.Fields(allowable) {
		all[name] = true
	}
	text := fullHead
	for _, name := range keys(all) {
		text += "element " + name + "\n" + own[name]
	}
	return text
}

// P14.7: each preset is valid, tidy, and what the chapter says.
func TestPresets(t *testing.T) {
	for name, text := range map[string]string{"basic": basicText, "rich": richText, "full": fullText()} {
		p, ok := policy.Preset(name)
		if !ok || policy.Check(p) != api.OK || errorOf(p) != api.OK {
			t.Errorf("%s: %v, %d", name, ok, policy.Check(p))
		}
		if s, e := policy.Print(p); s != text || e != api.OK {
			t.Errorf("%s: %d:\n%s\nnot\n%s", name, e, s, text)
		}
		if tidy, e := policy.Tidy(p); e != api.OK || show(tidy) != show(p) {
			t.Errorf("%s is not tidy: %d:\n%s", name, e, show(p))
		}
		if want, _, e := parsed(text); e != api.OK || show(want) != show(p) {
			t.Errorf("%s: %d:\n%s\nnot\n%s", name, e, show(p), show(want))
		}
	}
}

// P14.7: of all other names none.
func TestNoPresets(t *testing.T) {
	for _, name := range []string{"", "none", "Basic", "RICH", "full ", " full", "basic\n", "ful", "fulll", "\xff", "basic rich", strings.Repeat("x", 1<<16)} {
		if p, ok := policy.Preset(name); ok || !zero(p) {
			t.Errorf("Preset(%.20q): %v:\n%s", name, ok, show(p))
		}
	}
}

// P14.11: basic is within rich, rich within full, and not the other way; both together are the greater one, what both allow the lesser.
func TestPresetsWithin(t *testing.T) {
	var l []api.Policy
	for _, name := range []string{"basic", "rich", "full"} {
		p, _ := policy.Preset(name)
		l = append(l, p)
	}
	for i, a := range l {
		for k, b := range l {
			if ok, e := policy.Within(a, b); ok != (i <= k) || e != api.OK {
				t.Errorf("%d within %d: %v, %d", i, k, ok, e)
			}
			m, e := policy.Meet(a, b)
			if ok, e2 := policy.Within(m, l[min(i, k)]); !ok || e != api.OK || e2 != api.OK {
				t.Errorf("Meet of %d and %d: %v, %d, %d", i, k, ok, e, e2)
			}
			if ok, _ := policy.Within(l[min(i, k)], m); !ok {
				t.Errorf("Meet of %d and %d has not all", i, k)
			}
		}
	}
	j, e := policy.Join(l[1], l[0])
	gives(t, "basic and rich", j, e, l[1])
}

// P14.12: no preset, and nothing made of them, has what no valid policy has.
func TestNever(t *testing.T) {
	var l []api.Policy
	for _, name := range []string{"basic", "rich", "full"} {
		p, _ := policy.Preset(name)
		l = append(l, p)
	}
	never := strings.Fields("script title svg math template plaintext" + rawText)
	for _, p := range l {
		for _, name := range never {
			if _, ok := policy.Element(p, name); ok {
				t.Errorf("%s is an element", name)
			}
			p.Elements = append(p.Elements[:len(p.Elements):len(p.Elements)], api.Element{Name: name})
			if e := policy.Check(p); e != api.ErrPolicyElement {
				t.Errorf("with %s: %d", name, e)
			}
			p.Elements = p.Elements[:len(p.Elements)-1]
		}
		for _, attr := range []string{"onclick", "on", "onx", "on-x", "on1"} {
			p.Global = append(p.Global[:len(p.Global):len(p.Global)], api.Rule{Name: attr})
			if e := policy.Check(p); e != api.ErrPolicyAttr {
				t.Errorf("with %s: %d", attr, e)
			}
			p.Global = p.Global[:len(p.Global)-1]
		}
		p.Schemes = append(p.Schemes[:len(p.Schemes):len(p.Schemes)], "javascript")
		if e := policy.Check(p); e != api.ErrPolicyScheme {
			t.Errorf("with javascript: %d", e)
		}
	}
}
