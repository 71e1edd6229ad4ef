package policy

import (
	"slices"
	"strconv"
	"strings"

	"sieve/api"
	"sieve/names"
)

// kinds: the words for kinds of values, by the kind.
var kinds = [...]string{
	api.ValueAny:    "any",
	api.ValueTokens: "tokens",
	api.ValueName:   "name",
	api.ValueNumber: "number",
	api.ValueLength: "length",
	api.ValueLink:   "link",
	api.ValueLang:   "lang",
	api.ValueOneOf:  "oneof",
	api.ValueFlag:   "flag",
}

// What a text says of a policy's limits, if it says nothing of them.
const (
	usualDepth  = 64
	usualWindow = 65536
)

// maxDigits: how many digits a number in a text may have.
const maxDigits = 9

// Print: the text of a policy, put in order.
func Print(p api.Policy) (string, api.Errno) {
	p, e := Tidy(p)
	if e != api.OK {
		return "", e
	}
	var out strings.Builder
	say := func(words ...string) { out.WriteString(strings.Join(words, " ") + "\n") }
	sayAll := func(what string, l []string) {
		for _, s := range l {
			say(what, s)
		}
	}
	sayRules := func(what string, l []api.Rule) {
		for _, r := range l {
			say(slices.Concat([]string{what, r.Name, kinds[r.Kind]}, r.Words)...)
		}
	}
	say("depth", strconv.Itoa(p.Depth))
	say("window", strconv.Itoa(p.Window))
	if p.Relative {
		say("relative")
	}
	sayAll("scheme", p.Schemes)
	sayAll("drop", p.Drop)
	sayRules("global", p.Global)
	for _, el := range p.Elements {
		say("element", el.Name)
		sayRules("attr", el.Rules)
	}
	return out.String(), api.OK
}

// Parse: the policy that a text says, or the number of the first line that says nothing that may be.
func Parse(s string) (api.Policy, int, api.Errno) {
	r := reader{policy: api.Policy{Depth: usualDepth, Window: usualWindow}, said: map[string]int{}}
	number := 0
	for line := range strings.SplitSeq(s, "\n") {
		number++
		if line != "" && line[0] != '#' && !r.take(strings.Split(line, " ")) {
			return api.Policy{}, number, api.ErrPolicyText
		}
	}
	if e := Check(r.policy); e != api.OK {
		return api.Policy{}, 0, e
	}
	return r.policy, 0, api.OK
}

// reader is a policy as far as it was read, and how often lines of a kind have stood there.
type reader struct {
	policy api.Policy
	said   map[string]int
}

// take takes what the words of a line say; false, if they say nothing that may stand there.
func (r *reader) take(words []string) bool {
	if slices.Contains(words, "") {
		return false
	}
	what, words := words[0], words[1:]
	r.said[what]++
	first := r.said[what] == 1
	p := &r.policy
	switch what {
	case "depth":
		return first && takeNumber(words, &p.Depth)
	case "window":
		return first && takeNumber(words, &p.Window)
	case "relative":
		p.Relative = true
		return first && len(words) == 0
	case "scheme":
		return takeText(words, &p.Schemes)
	case "drop":
		return takeText(words, &p.Drop)
	case "global":
		return takeRule(words, &p.Global)
	case "element":
		return takeElement(words, &p.Elements)
	case "attr":
		n := len(p.Elements)
		return n > 0 && takeRule(words, &p.Elements[n-1].Rules)
	}
	return false
}

// takeNumber takes one word that is a number.
func takeNumber(words []string, to *int) bool {
	if len(words) != 1 || len(words[0]) > maxDigits {
		return false
	}
	n := 0
	for _, r := range words[0] {
		if !names.Digit(r) {
			return false
		}
		n = n*10 + names.Value(r)
	}
	*to = n
	return true
}

// takeText takes one word, whatever it is.
func takeText(words []string, to *[]string) bool {
	*to = append(*to, words...)
	return len(words) == 1
}

// takeElement takes one word, the name of an element.
func takeElement(words []string, to *[]api.Element) bool {
	if len(words) != 1 {
		return false
	}
	*to = append(*to, api.Element{Name: words[0]})
	return true
}

// takeRule takes a name, a kind, and the words of a kind that has some.
func takeRule(words []string, to *[]api.Rule) bool {
	if len(words) < 2 {
		return false
	}
	kind, ok := kindOf(words[1])
	if !ok || kind != api.ValueOneOf && len(words) > 2 {
		return false
	}
	*to = append(*to, api.Rule{Name: words[0], Kind: kind, Words: copyTexts(words[2:])})
	return true
}

// kindOf: the kind that a word stands for.
func kindOf(word string) (api.ValueKind, bool) {
	for kind, name := range kinds {
		if name == word {
			return api.ValueKind(kind), true
		}
	}
	return 0, false
}
