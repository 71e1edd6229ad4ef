package link

import (
	"bytes"
	"strings"

	"sieve/api"
	"sieve/utf"
)

// Dots: a path without dot segments.
func Dots(path string) string {
	in := utf.Mend(path)
	out := make([]byte, 0, len(in))
	for in != "" {
		switch {
		case strings.HasPrefix(in, "../"):
			in = in[3:]
		case strings.HasPrefix(in, "./"):
			in = in[2:]
		case strings.HasPrefix(in, "/./"):
			in = in[2:]
		case in == "/.":
			in = "/"
		case strings.HasPrefix(in, "/../"):
			in, out = in[3:], withoutLast(out)
		case in == "/..":
			in, out = "/", withoutLast(out)
		case in == "." || in == "..":
			in = ""
		default:
			at := 1 + slashAt(in[1:]) // a / at the beginning belongs to the segment
			out = append(out, in[:at]...)
			in = in[at:]
		}
	}
	return string(out)
}

// Resolve: what a reference says in a place that a base names.
func Resolve(base, ref api.Link) api.Link {
	base, ref = mended(base), mended(ref)
	out := ref
	switch {
	case ref.HasScheme:
		out.Path = Dots(ref.Path)
		return out
	case ref.HasHost:
		out.Path = Dots(ref.Path)
	case ref.Path == "":
		out.Path = base.Path
		if !ref.HasQuery {
			out.Query, out.HasQuery = base.Query, base.HasQuery
		}
	case ref.Path[0] == '/':
		out.Path = Dots(ref.Path)
	default:
		out.Path = Dots(folder(base) + ref.Path)
	}
	out.Scheme, out.HasScheme = base.Scheme, base.HasScheme
	if !ref.HasHost {
		out.Host, out.HasHost = base.Host, base.HasHost
	}
	return out
}

// Relative: as few of a link's parts as say it in a place that a base names.
func Relative(base, to api.Link) api.Link {
	to = mended(to)
	frag := api.Link{Frag: to.Frag, HasFrag: to.HasFrag}
	query := frag
	query.Query, query.HasQuery = to.Query, to.HasQuery
	last := query
	last.Path = to.Path[strings.LastIndexByte(to.Path, '/')+1:]
	path := query
	path.Path = to.Path
	host := path
	host.Host, host.HasHost = to.Host, to.HasHost
	for _, ref := range [...]api.Link{frag, query, last, path, host} {
		if Resolve(base, ref) == to {
			return ref
		}
	}
	return to
}

// withoutLast: a path without its last segment and the / ahead of that, if there is one.
func withoutLast(path []byte) []byte {
	return path[:max(0, bytes.LastIndexByte(path, '/'))]
}

// folder: what a base puts ahead of a path that begins with no /.
func folder(base api.Link) string {
	if base.HasHost && base.Path == "" {
		return "/"
	}
	return base.Path[:strings.LastIndexByte(base.Path, '/')+1]
}
