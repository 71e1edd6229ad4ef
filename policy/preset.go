package policy

import (
	"sieve/api"
	"sieve/names"
)

// The presets are told as texts of policies.
const (
	basicLimits   = "depth 32\nwindow 4096\n"
	basicElements = `element b
element br
element code
element em
element i
element p
element strong
`

	richLimits   = "depth 64\nwindow 65536\n"
	richLinks    = "relative\nscheme http\nscheme https\nscheme mailto\n"
	richGlobal   = "global class tokens\nglobal lang lang\n"
	richElements = `element a
attr href link
attr title any
element blockquote
attr cite link
element h1
element h2
element h3
element h4
element h5
element h6
element hr
element img
` + imgRules + `element li
element ol
attr start number
element pre
element ul
`
	imgRules = "attr alt any\nattr height length\nattr src link\nattr width length\n"

	fullLimits = "depth 256\nwindow 65536\n"
	fullDrop   = "drop math\ndrop select\ndrop svg\ndrop template\n"
	fullGlobal = `global class tokens
global dir oneof auto ltr rtl
global id name
global lang lang
global title any
`
)

// Preset: the policy of a name.
func Preset(name string) (api.Policy, bool) {
	var text string
	switch name {
	case "basic":
		text = basicLimits + basicElements
	case "rich":
		text = richLimits + richLinks + richGlobal + basicElements + richElements
	case "full":
		text = fullLimits + richLinks + fullDrop + fullGlobal + fullElements()
	default:
		return api.Policy{}, false
	}
	p, _, _ := Parse(text)
	return inOrder(p), true
}

// fullElements: the lines of all elements that a policy may allow, with their rules.
func fullElements() string {
	text := ""
	for _, name := range names.All(api.SetAllow) {
		text += "element " + name + "\n" + fullRules(name)
	}
	return text
}

// fullRules: the lines of an element's own rules.
func fullRules(name string) string {
	switch name {
	case "a":
		return "attr href link\n"
	case "blockquote", "del", "ins", "q":
		return "attr cite link\n"
	case "img":
		return imgRules
	case "ol":
		return "attr start number\n"
	case "td", "th":
		return "attr colspan number\nattr rowspan number\n"
	case "time":
		return "attr datetime any\n"
	case "data":
		return "attr value any\n"
	}
	return ""
}
