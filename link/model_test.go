package link_test

import (
	"fmt"
	"regexp"
	"strconv"
	"strings"

	"sieve/api"
	"sieve/utf"
)

// What the calls answer, by the chapter's words.

var (
	stripped   = regexp.MustCompile(`^[\x00-\x20]+|[\x00-\x20]+$|[\t\n\r]`)
	schemed    = regexp.MustCompile(`^([A-Za-z][A-Za-z0-9+.-]*):`)
	allowable  = regexp.MustCompile(`^[a-z][a-z0-9+.-]{0,99}$`)
	mayNeverBe = regexp.MustCompile(`^(javascript|data|vbscript|blob|file|filesystem|about)$`)
	escape     = regexp.MustCompile(`%[0-9A-Fa-f][0-9A-Fa-f]`)
	inParts    = regexp.MustCompile(`^(?:([A-Za-z][A-Za-z0-9+.-]*)(:))?(?:(//)([^/?#]*))?([^?#]*)(?:(\?)([^#]*))?(?:(#)((?s:.*)))?$`) // RFC 3986, appendix B
	inHost     = regexp.MustCompile(`^(?:((?s:.*))@)?([^@]*?)(?::([0-9]*))?$`)
	blankRun   = regexp.MustCompile(`[\t\n\f\r ]+`)
	goodDesc   = regexp.MustCompile(`^([0-9]{1,9}[wx]|[0-9]{1,9}\.[0-9]{1,9}x)?$`)
)

// kinds: what each kind begins with, in the order in which they are looked for.
var kinds = []struct {
	begins *regexp.Regexp
	kind   api.LinkKind
}{
	{schemed, 1},
	{regexp.MustCompile(`^$`), 0},
	{regexp.MustCompile(`^[/\\][/\\]`), 2},
	{regexp.MustCompile(`^[/\\]`), 3},
	{regexp.MustCompile(`^\?`), 4},
	{regexp.MustCompile(`^#`), 5},
	{regexp.MustCompile(``), 6},
}

// stay: the bytes that Encode leaves, but for %.
const stay = "!#$&'()*+,-./0123456789:;=?@ABCDEFGHIJKLMNOPQRSTUVWXYZ[]_abcdefghijklmnopqrstuvwxyz~"

// stayInQuery: the same of Query.
const stayInQuery = "*-.0123456789ABCDEFGHIJKLMNOPQRSTUVWXYZ_abcdefghijklmnopqrstuvwxyz"

func modelStrip(v string) string { return stripped.ReplaceAllString(utf.Mend(v), "") }

func modelScheme(v string) (string, bool) {
	found := schemed.FindStringSubmatch(modelStrip(v))
	if found == nil {
		return "", false
	}
	return strings.ToLower(found[1]), true
}

func modelKind(v string) api.LinkKind {
	for _, k := range kinds {
		if k.begins.MatchString(modelStrip(v)) {
			return k.kind
		}
	}
	return -1
}

func modelCheck(scheme string) api.Errno {
	if allowable.MatchString(scheme) && !mayNeverBe.MatchString(scheme) {
		return api.OK
	}
	return api.ErrLinkForm
}

func modelSplit(v string) api.Link {
	p := inParts.FindStringSubmatch(modelStrip(v))
	return api.Link{
		Scheme: strings.ToLower(p[1]), HasScheme: p[2] != "",
		Host: p[4], HasHost: p[3] != "",
		Path:  p[5],
		Query: p[7], HasQuery: p[6] != "",
		Frag: p[9], HasFrag: p[8] != "",
	}
}

func modelEncode(s string) string {
	s = utf.Mend(s)
	out := ""
	for at := range len(s) {
		found := escape.FindStringIndex(s[at:])
		if strings.IndexByte(stay, s[at]) >= 0 || found != nil && found[0] == 0 {
			out += s[at : at+1]
		} else {
			out += fmt.Sprintf("%%%02X", s[at])
		}
	}
	return out
}

func modelDecode(s string) string {
	return utf.Mend(escape.ReplaceAllStringFunc(utf.Mend(s), func(e string) string {
		n, _ := strconv.ParseUint(e[1:], 16, 8)
		return string([]byte{byte(n)})
	}))
}

// modelDots: RFC 3986, 5.2.4, with the output as a list of segments.
func modelDots(path string) string {
	var out []string
	pop := func() {
		if len(out) > 0 {
			out = out[:len(out)-1]
		}
	}
	take := regexp.MustCompile(`^/?[^/]*`)
	for in := utf.Mend(path); in != ""; {
		if rest, ok := strings.CutPrefix(in, "../"); ok {
			in = rest
		} else if rest, ok := strings.CutPrefix(in, "./"); ok {
			in = rest
		} else if rest, ok := strings.CutPrefix(in, "/./"); ok {
			in = "/" + rest
		} else if in == "/." {
			in = "/"
		} else if rest, ok := strings.CutPrefix(in, "/../"); ok {
			in = "/" + rest
			pop()
		} else if in == "/.." {
			in = "/"
			pop()
		} else if in == "." || in == ".." {
			in = ""
		} else {
			segment := take.FindString(in)
			out = append(out, segment)
			in = in[len(segment):]
		}
	}
	return strings.Join(out, "")
}

// modelResolve: RFC 3986, 5.2.2 and 5.2.3, of mended links.
func modelResolve(base, r api.Link) api.Link {
	var t api.Link
	if r.HasScheme {
		t = r
		t.Path = modelDots(r.Path)
		return t
	}
	if r.HasHost {
		t.Host, t.HasHost = r.Host, r.HasHost
		t.Path = modelDots(r.Path)
		t.Query, t.HasQuery = r.Query, r.HasQuery
	} else {
		if r.Path == "" {
			t.Path = base.Path
			if r.HasQuery {
				t.Query, t.HasQuery = r.Query, r.HasQuery
			} else {
				t.Query, t.HasQuery = base.Query, base.HasQuery
			}
		} else {
			if strings.HasPrefix(r.Path, "/") {
				t.Path = modelDots(r.Path)
			} else if base.HasHost && base.Path == "" {
				t.Path = modelDots("/" + r.Path)
			} else {
				t.Path = modelDots(regexp.MustCompile(`^((?s:.*)/)?`).FindString(base.Path) + r.Path)
			}
			t.Query, t.HasQuery = r.Query, r.HasQuery
		}
		t.Host, t.HasHost = base.Host, base.HasHost
	}
	t.Scheme, t.HasScheme = base.Scheme, base.HasScheme
	t.Frag, t.HasFrag = r.Frag, r.HasFrag
	return t
}

// modelRelative: the five ways, one behind the other.
func modelRelative(base, to api.Link) api.Link {
	segments := strings.Split(to.Path, "/")
	ways := []api.Link{
		{Frag: to.Frag, HasFrag: to.HasFrag},
		{Query: to.Query, HasQuery: to.HasQuery, Frag: to.Frag, HasFrag: to.HasFrag},
		{Path: segments[len(segments)-1], Query: to.Query, HasQuery: to.HasQuery, Frag: to.Frag, HasFrag: to.HasFrag},
		{Path: to.Path, Query: to.Query, HasQuery: to.HasQuery, Frag: to.Frag, HasFrag: to.HasFrag},
		{Host: to.Host, HasHost: to.HasHost, Path: to.Path, Query: to.Query, HasQuery: to.HasQuery, Frag: to.Frag, HasFrag: to.HasFrag},
	}
	for _, r := range ways {
		if modelResolve(base, r) == to {
			return r
		}
	}
	return to
}

func modelAuthority(host string) [3]string {
	p := inHost.FindStringSubmatch(utf.Mend(host))
	return [3]string{p[1], p[2], p[3]}
}

// modelSrcset: rune by rune, as the standard's states go.
func modelSrcset(v string) ([]api.Candidate, bool) {
	const (
		ahead = iota
		inLink
		inDesc
		inParentheses
	)
	var out []api.Candidate
	state, link, desc, good := ahead, "", "", true
	tell := func() {
		d := strings.Trim(blankRun.ReplaceAllString(desc, " "), " ")
		out = append(out, api.Candidate{Link: link, Desc: d})
		good = good && goodDesc.MatchString(d)
		state, link, desc = ahead, "", ""
	}
	endLink := func() {
		if !strings.HasSuffix(link, ",") {
			state = inDesc
			return
		}
		for strings.HasSuffix(link, ",") {
			link = link[:len(link)-1]
		}
		tell()
	}
	for _, r := range utf.Mend(v) {
		white := blankRun.MatchString(string(r))
		switch {
		case state == ahead && !white && r != ',':
			state, link = inLink, string(r)
		case state == inLink && white:
			endLink()
		case state == inLink:
			link += string(r)
		case state == inDesc && r == ',':
			tell()
		case state == inDesc && r == '(':
			state, desc = inParentheses, desc+"("
		case state == inParentheses && r == ')':
			state, desc = inDesc, desc+")"
		case state == inDesc || state == inParentheses:
			desc += string(r)
		}
	}
	if state == inLink {
		endLink()
	}
	if state != ahead {
		tell()
	}
	return out, good
}

func modelPairs(query string) []api.Attr {
	var out []api.Attr
	say := func(s string) string {
		spaces := ""
		for at := range len(s) {
			if s[at] == '+' {
				spaces += " "
			} else {
				spaces += s[at : at+1]
			}
		}
		return modelDecode(spaces)
	}
	for _, part := range regexp.MustCompile(`[^&]+`).FindAllString(utf.Mend(query), -1) {
		p := regexp.MustCompile(`^([^=]*)=?((?s:.*))$`).FindStringSubmatch(part)
		out = append(out, api.Attr{Name: say(p[1]), Value: say(p[2])})
	}
	return out
}

func modelQuery(l ...api.Attr) string {
	say := func(s string) string {
		out := ""
		for _, c := range []byte(utf.Mend(s)) {
			if strings.IndexByte(stayInQuery, c) >= 0 {
				out += string(rune(c))
			} else if c == ' ' {
				out += "+"
			} else {
				out += fmt.Sprintf("%%%02X", c)
			}
		}
		return out
	}
	var all []string
	for _, a := range l {
		all = append(all, say(a.Name)+"="+say(a.Value))
	}
	return strings.Join(all, "&")
}

// texts tells all texts of up to so many parts.
func texts(most int, parts []string, tell func(s string)) {
	var grow func(s string, left int)
	grow = func(s string, left int) {
		tell(s)
		if left == 0 {
			return
		}
		for _, p := range parts {
			grow(s+p, left-1)
		}
	}
	grow("", most)
}

// signs: what a link's parts are told by, bytes that are taken away, and bytes that are no UTF-8.
var signs = []string{"a", "Z", "1", "+", ".", ":", "/", "\\", "?", "#", "%", "@", " ", "\t", "\n", "\x00", "é", "\xff", "\xe2\x82"}

// broken: bytes that are no UTF-8, and what they are, mended.
var broken = [][2]string{
	{"\xff", "\ufffd"}, {"\x80", "\ufffd"}, {"\xc3", "\ufffd"}, {"\xe2\x82", "\ufffd"}, {"\xf0\x9f\x98", "\ufffd"}, {"\xc0\xaf", "\ufffd\ufffd"}, {"\xed\xa0\x80", "\ufffd\ufffd\ufffd"}, {"\xf4\x90\x80\x80", "\ufffd\ufffd\ufffd\ufffd"},
}

// everywhere tells texts with each byte alone, at the beginning, in the middle, at the end, and twice.
func everywhere(tell func(s string)) {
	for c := range 256 {
		b := string([]byte{byte(c)})
		for _, s := range []string{b, b + b, b + "a", "a" + b, "a" + b + "c", b + "a:b", "a" + b + ":c", "a:" + b, "a:b" + b, "//" + b, "/" + b, "a:" + b + b + "x/y", "?" + b, "#" + b, "%" + b, "%" + b + b, "%4" + b, "%" + b + "4", "é" + b, b + "é"} {
			tell(s)
		}
	}
}
