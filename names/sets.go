package names

import (
	"iter"
	"maps"
	"slices"
	"strings"

	"sieve/api"
)

// The names of the sets in rising order, with a space on both sides of each.
const (
	namesVoid        = " area base br col embed hr img input link meta source track wbr "
	namesBare        = " area base basefont bgsound br col embed frame hr img input keygen link meta param source track wbr "
	namesRcdata      = " textarea title "
	namesRaw         = " iframe noembed noframes noscript style xmp "
	namesFormatting  = " a b big code em font i nobr s small strike strong tt u "
	namesHeading     = " h1 h2 h3 h4 h5 h6 "
	namesBlock       = " address article aside blockquote center dd details dialog dir div dl dt fieldset figcaption figure footer form h1 h2 h3 h4 h5 h6 header hgroup hr li listing main menu nav ol p plaintext pre search section summary table ul xmp "
	namesImplied     = " dd dt li optgroup option p rb rp rt rtc "
	namesScope       = " applet caption html marquee object table td template th "
	namesListScope   = " applet caption html marquee object ol table td template th ul "
	namesButtonScope = " applet button caption html marquee object table td template th "
	namesTableScope  = " html table template "
	namesSpecial     = " address applet area article aside base basefont bgsound blockquote body br button caption center col colgroup dd details dir div dl dt embed fieldset figcaption figure footer form frame frameset h1 h2 h3 h4 h5 h6 head header hgroup hr html iframe img input keygen li link listing main marquee menu meta nav noembed noframes noscript object ol p param plaintext pre script search section select source style summary table tbody td template textarea tfoot th thead title tr track ul wbr xmp "
	namesMarker      = " applet caption marquee object td template th "
	namesTable       = " caption col colgroup tbody td tfoot th thead tr "
	namesAllow       = " a abbr address article aside b bdi bdo blockquote br caption center cite code col colgroup data dd del details dfn dialog div dl dt em figcaption figure footer h1 h2 h3 h4 h5 h6 header hgroup hr i img ins kbd label li main mark menu nav ol p pre q s samp search section small span strong sub summary sup table tbody td textarea tfoot th thead time tr u ul var wbr "
)

// text: the names of a set; none of what is no set.
func text(set api.Set) string {
	switch set {
	case api.SetVoid:
		return namesVoid
	case api.SetBare:
		return namesBare
	case api.SetRcdata:
		return namesRcdata
	case api.SetRaw:
		return namesRaw
	case api.SetFormatting:
		return namesFormatting
	case api.SetHeading:
		return namesHeading
	case api.SetBlock:
		return namesBlock
	case api.SetImplied:
		return namesImplied
	case api.SetScope:
		return namesScope
	case api.SetListScope:
		return namesListScope
	case api.SetButtonScope:
		return namesButtonScope
	case api.SetTableScope:
		return namesTableScope
	case api.SetSpecial:
		return namesSpecial
	case api.SetMarker:
		return namesMarker
	case api.SetTable:
		return namesTable
	case api.SetAllow:
		return namesAllow
	}
	return ""
}

// members: a set as a map of its names to their numbers in rising order.
func members(set api.Set) map[string]int {
	m := map[string]int{}
	for at, name := range Fields(text(set)) {
		m[name] = at
	}
	return m
}

// In: is a name in a set?
func In(name string, set api.Set) bool {
	// The layers above ask this of whole stacks, again and again: a look through the text spares the making of the map.
	return TagName(name) && strings.Contains(text(set), " "+name+" ")
}

// List: the names of a set.
func List(set api.Set) ([]string, api.Errno) {
	m := members(set)
	if len(m) == 0 {
		return nil, api.ErrNamesSet
	}
	out := make([]string, len(m))
	for name, at := range m {
		out[at] = name
	}
	return out, api.OK
}

// Sets: the sets that have a name.
func Sets(name string) []api.Set {
	var out []api.Set
	for set := api.SetVoid; set <= api.SetAllow; set++ {
		if In(name, set) {
			out = append(out, set)
		}
	}
	return out
}

// Known: all names that are in some set.
func Known() []string {
	all := map[string]int{}
	for set := api.SetVoid; set <= api.SetAllow; set++ {
		maps.Copy(all, members(set))
	}
	return slices.Sorted(maps.Keys(all))
}

// Count: how many of some names are in each set.
func Count(names ...string) [16]int {
	var out [16]int
	for set := range out {
		m := members(api.Set(set))
		for _, name := range names {
			if _, ok := m[name]; ok {
				out[set]++
			}
		}
	}
	return out
}

// All: the names of a set, with their numbers.
func All(set api.Set) iter.Seq2[int, string] {
	list, _ := List(set)
	return slices.All(list)
}
