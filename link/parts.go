package link

import (
	"strings"

	"sieve/api"
	"sieve/names"
	"sieve/utf"
)

// Split: a link in its parts.
func Split(v string) api.Link {
	var l api.Link
	rest := Strip(v)
	if at := colon(rest); at >= 0 {
		l.Scheme, l.HasScheme = names.Lower(rest[:at]), true
		rest = rest[at+1:]
	}
	rest, l.Frag, l.HasFrag = strings.Cut(rest, "#")
	rest, l.Query, l.HasQuery = strings.Cut(rest, "?")
	if host, ok := strings.CutPrefix(rest, "//"); ok {
		at := slashAt(host)
		l.Host, l.HasHost = host[:at], true
		rest = host[at:]
	}
	l.Path = rest
	return l
}

// Join: the link of parts.
func Join(l api.Link) string {
	l = mended(l)
	var out strings.Builder
	if l.HasScheme {
		out.WriteString(l.Scheme + ":")
	}
	if l.HasHost {
		out.WriteString("//" + l.Host)
	}
	out.WriteString(l.Path)
	if l.HasQuery {
		out.WriteString("?" + l.Query)
	}
	if l.HasFrag {
		out.WriteString("#" + l.Frag)
	}
	return out.String()
}

// Authority: the user, the host and the port of an authority.
func Authority(host string) (string, string, string) {
	host = utf.Mend(host)
	user := ""
	if at := strings.LastIndexByte(host, '@'); at >= 0 {
		user, host = host[:at], host[at+1:]
	}
	at := strings.LastIndexByte(host, ':')
	if at < 0 {
		return user, host, ""
	}
	port := host[at+1:]
	if digits(port) < len(port) { // a ] behind the : is no digit either
		return user, host, ""
	}
	return user, host[:at], port
}

// mended: a link whose texts are mended, those beside a false Has.. too: what is not read there may still be handed on.
func mended(l api.Link) api.Link {
	l.Scheme, l.Host, l.Path = utf.Mend(l.Scheme), utf.Mend(l.Host), utf.Mend(l.Path)
	l.Query, l.Frag = utf.Mend(l.Query), utf.Mend(l.Frag)
	return l
}

// slashAt: where the first / of a text stands; its length, if it has none.
func slashAt(s string) int {
	if at := strings.IndexByte(s, '/'); at >= 0 {
		return at
	}
	return len(s)
}

// digits: how many digits a text begins with.
func digits(s string) int {
	at := 0
	for at < len(s) && names.Digit(rune(s[at])) {
		at++
	}
	return at
}
