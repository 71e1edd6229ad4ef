package raw_test

import (
	"strings"
	"testing"

	"sieve/api"
	"sieve/raw"
	"sieve/utf"
)

// says: Whole answers so.
func says(t *testing.T, name, s string, want answer) {
	t.Helper()
	if got := whole(t, name, s); got != want {
		t.Errorf("%s, %q: %+v; want %+v", name, s, got, want)
	}
}

// ends: the content is what stands ahead of a text's mark, |, and the end tag's end its last byte; whatever follows.
func ends(t *testing.T, name, s string) {
	t.Helper()
	content, tag, ok := strings.Cut(s, "|")
	if !ok {
		t.Fatalf("%q has no mark", s)
	}
	for _, behind := range []string{"", "x", "</" + name + ">", "\xff", "-->"} {
		says(t, name, content+tag+behind, answer{content, len(content + tag), true})
	}
}

// goesOn: a text has no end.
func goesOn(t *testing.T, name, s string) {
	t.Helper()
	says(t, name, s, answer{s, len(s), false})
}

// P10.5: the chapter's examples.
func TestWholeExamples(t *testing.T) {
	says(t, "title", "a</b></TITLE x>c", answer{"a</b>", 13, true})
	says(t, "style", "a</styles></style>", answer{"a</styles>", 18, true})
	says(t, "script", "x<!--<script></script>y--></script>", answer{"x<!--<script></script>y-->", 35, true})
	says(t, "script", "<!--</script>", answer{"<!--", 13, true})
	says(t, "script", "<!--><script></script>", answer{"<!--><script>", 22, true})
	says(t, "plaintext", "a</plaintext>", answer{"a</plaintext>", 13, false})
	if content, n, ended, e := raw.Whole("p", "x</p>"); content != "" || n != 0 || ended || e != api.ErrRawName {
		t.Errorf("%q, %d, %v, %d", content, n, ended, e)
	}
}

// P10.5: end tags of every name, with each sign that may stand behind it, and with others; one letter more, one less, another name.
func TestWholeEnds(t *testing.T) {
	for _, name := range all {
		if name == "plaintext" {
			continue
		}
		for _, ahead := range []string{"", "x", "<", "</", "<<", "</</", "</" + name[:2], "</" + name, "<" + name + ">", "/", "é", "&lt;", "\x00", "</p>", "</" + name + "s>", "</" + name[:len(name)-1] + ">", "</ " + name + ">", "<\n/" + name + ">", "< /" + name + ">"} {
			for _, sign := range fine {
				ends(t, name, ahead+"|</"+name+sign)
				ends(t, name, ahead+"|</"+strings.ToUpper(name)+sign)
			}
			for _, sign := range []string{"\r", "\v", "\x00", "-", "<", "=", "0", "s", "S", "\u00a0", "é"} {
				goesOn(t, name, ahead+"</"+name+sign)
				ends(t, name, ahead+"</"+name+sign+"|</"+name+">")
			}
		}
		for _, other := range all {
			if other != name {
				goesOn(t, name, "</"+other+">")
			}
		}
	}
}

// P10.5: every sign that may not stand behind the name, also those that are no UTF-8.
func TestWholeOtherSigns(t *testing.T) {
	for _, name := range []string{"title", "xmp", "script"} {
		for _, sign := range notFine {
			text := "</" + name + sign + "</" + name + ">"
			says(t, name, text, answer{utf.Mend("</" + name + sign), len(text), true})
			text = "</" + name + sign
			says(t, name, text, answer{utf.Mend(text), len(text), false})
		}
	}
}

// P10.5: every choice of capitals.
func TestWholeCapitals(t *testing.T) {
	for _, name := range []string{"title", "style", "script", "xmp"} {
		for bits := range 1 << len(name) {
			b := []byte(name)
			for i := range b {
				if bits>>i&1 == 1 {
					b[i] -= 32
				}
			}
			for _, sign := range fine {
				ends(t, name, "x|</"+string(b)+sign)
			}
			goesOn(t, name, "</"+string(b))
			goesOn(t, name, "<"+string(b)+">")
		}
	}
	// Runes beyond ASCII that Unicode has as the same letters in another case are others.
	goesOn(t, "script", "</\u017fcript>")
	goesOn(t, "style", "</\u017ftyle></STYLE\u017f>")
	goesOn(t, "title", "</T\u0130TLE></t\u0131tle>")
	goesOn(t, "title", "＜/title></title＞")
}

// P10.5: < and </ one behind the other.
func TestWholeAgain(t *testing.T) {
	for _, s := range []string{"<|</title>", "</|</title>", "</ti|</title>", "</title|</title>", "<</|</title>", "<<<|</title>", "</<|</title>", "</t</ti</tit|</title>", "</titl<|</TITLE/", "//|</title\t", "</ti/|</title\n", "</tititle>|</title>"} {
		for _, name := range []string{"title", "xmp", "script"} {
			ends(t, name, strings.NewReplacer("title", name, "TITLE", strings.ToUpper(name)).Replace(s))
		}
	}
}

// P10.5: an end tag that the input's end cuts at every place.
func TestWholeCut(t *testing.T) {
	for _, name := range all {
		for _, ahead := range []string{"", "x", "<", "</", "é", "<!--", "<!--x", "<!--<script></script>"} {
			tag := "</" + name
			for n := range len(tag) + 1 {
				goesOn(t, name, ahead+tag[:n])
				goesOn(t, name, ahead+strings.ToUpper(tag[:n]))
			}
		}
	}
}

// P10.5: nothing ends plain text.
func TestWholePlaintext(t *testing.T) {
	for _, s := range []string{"", "x", "</plaintext>", "</PLAINTEXT ", "a</plaintext/>b", "<!--</plaintext>-->", "</script>", "<", "</", "</plaintext", "\x00"} {
		goesOn(t, "plaintext", s)
	}
	says(t, "plaintext", "\xff</plaintext>\xe2\x82", answer{"\ufffd</plaintext>\ufffd", 15, false})
}

// P10.5: script data: what begins an escaped part, and what ends it.
func TestWholeEscaped(t *testing.T) {
	for _, s := range []string{
		// a part that is over, or none, leads to no doubly escaped one
		"<!--><script>|</script>", "<!---><script>|</script>", "<!----><script>|</script>", "<!-----><script>|</script>", "<!--x--><script>|</script>", "<!--x---><script>|</script>", "<!--x-----><script>|</script>",
		"<!- -><script>|</script>", "<!-x<script>|</script>", "<!-<script>|</script>", "<!<script>|</script>", "<! --<script>|</script>", "<!-!--<script>|</script>", "< !--<script>|</script>", "!--<script>|</script>", "--<script>|</script>", "<--<script>|</script>", "<!-\x00-<script>|</script>", "<!\x00--<script>|</script>",
		"--><script>|</script>", "<script><!--|</script>", "<script>|</script>", "<!--|</script>", "<!-|</script>", "<!|</script>",
		"<!--->--><script>|</script>", "<!-->--><script>|</script>", "<!--<!--><script>|</script>", "<!--<!---><script>|</script>",
		// what nearly ends one does not
		"<!--x--!><script></script>|</script>", "<!--x->-<script></script>|</script>", "<!--x-- ><script></script>|</script>", "<!--!><script></script>|</script>", "<!--x>-<script></script>|</script>", "<!-- -><script></script>|</script>", "<!--x--x><script></script>|</script>", "<!----!><script></script>|</script>", "<!--->x-->|</script>", "<!--x--<><script></script>|</script>", "<!--x-<-><script></script>|</script>", "<!--x--</><script></script>|</script>",
		"<!---!><script></script>|</script>", "<!--x-\x00-><script></script>|</script>", "<!--x--\x00><script></script>|</script>",
		// what nearly begins one, and then does
		"<!<!--<script></script>|</script>", "<!-<!--<script></script>|</script>", "<<!--<script></script>|</script>", "</<!--<script></script>|</script>", "</script<!--<script></script>|</script>", "</scr<!--<script></script>|</script>", "<!</<!--<script></script>|</script>",
		// one that begins again
		"<!----><!--<script></script>|</script>", "<!--<script>--><!--|</script>", "<!--<script>--><!--<script></script>|</script>", "<!--x--><!--|</script>", "<!--<script></script>--><script>|</script>", "<!--><!--><!--<script></script>|</script>", "<!--x-->--<script>|</script>", "<!--><!-><script>|</script>",
	} {
		ends(t, "script", s)
	}
	goesOn(t, "script", "<!--<script></script>")
	goesOn(t, "script", "<!--<script></script><script></script>")
	goesOn(t, "script", "<!--x--!><script></script>")
}

// P10.5: script data: what begins a doubly escaped part, and what ends it.
func TestWholeDoubled(t *testing.T) {
	for _, sign := range fine {
		for _, other := range fine {
			ends(t, "script", "<!--<script"+sign+"</script"+other+"|</script>")
			ends(t, "script", "<!--<SCRIPT"+sign+"</sCRIPt"+other+"x|</script"+sign)
			goesOn(t, "script", "<!--<script"+sign+"</script"+other)
			goesOn(t, "script", "<!--<script"+sign+"</script"+other+"<Script"+sign+"</SCRIPT"+other)
		}
		ends(t, "script", "<script"+sign+"|</script>")
		ends(t, "script", "<!--<script"+sign+"-->|</script>")
		ends(t, "script", "<!--<script"+sign+"--->|</script>")
		ends(t, "script", "<!--<script"+sign+"</script"+sign+"-->|</script>")
		ends(t, "script", "<!--<script"+sign+"</script"+sign+"--><script>|</script>")
	}
	for _, sign := range []string{"x", "S", "0", "<", "-", "=", "\r", "\v", "\x00", "\u00a0", "é", ".", "!"} {
		ends(t, "script", "<!--<script"+sign+"|</script>")                             // no doubly escaped part begins so
		ends(t, "script", "<!--<script></script"+sign+"-->|</script>")                 // none ends so
		goesOn(t, "script", "<!--<script></script"+sign+"</script>")                   // here
		ends(t, "script", "<!--<script></script"+sign+"</script>|</script>")           // as this one does
		ends(t, "script", "<!--<script"+sign+"<script></script>|</script>")            // and this one begins
		ends(t, "script", "<!--<script"+sign+"-->|</script>")                          // the escaped part ends
		ends(t, "script", "<!--<script></script"+sign+"--><script>|</script>")         // this one too
		goesOn(t, "script", "<!--<script></script"+sign+"<script></script>")           // begun once, ended once
		ends(t, "script", "<!--</script"+sign+"<script></script>|</script>")           // no end tag ahead of it
		ends(t, "script", "<!--<script></script><script"+sign+"|</script>")            // nor a second part
		ends(t, "script", "<!--<script></script><script></script>x"+sign+"|</script>") // but here
	}
	ends(t, "script", "<!--<script><script></script>|</script>") // begun twice, ended by one
	for _, s := range []string{
		"<!--<scrip>|</script>", "<!--<scriptt>|</script>", "<!--<xscript>|</script>", "<!--< script>|</script>", "<!--<\x00script>|</script>", "<!--<scr ipt>|</script>", "<!--<scr-ipt>|</script>", "<!--script>|</script>", "<!--<style>|</script>", "<!--</style>|</script>", "<!--<|</script>", "<!--</|</script>", "<!--</scr|</script>", "<!--<scr|</script>", "<!--<!|</script>",
		"<!--<<script></script>|</script>", "<!--<scr<script></script>|</script>", "<!--</<script></script>|</script>", "<!--</scr<script></script>|</script>", "<!--</script<script></script>|</script>", "<!-<!--<script></script>|</script>", "<!---<script></script>|</script>", "<!--x--<script></script>|</script>", "<!--<!--<script></script>|</script>", "<!--<!<script></script>|</script>",
		"<!--<script><</script>|</script>", "<!--<script></</script>|</script>", "<!--<script></scr</script>|</script>", "<!--<script></script</script>|</script>", "<!--<script>--</script>|</script>", "<!--<script>-</script>|</script>", "<!--<script><!--</script>|</script>", "<!--<script></ script></script>|</script>", "<!--<script>< /script></script>|</script>", "<!--<script></\x00script></script>|</script>",
		"<!--<script>--!></script>|</script>", "<!--<script>->-</script>|</script>", "<!--<script>-- ></script>|</script>", "<!--<script></style></script>|</script>", "<!--<script></scripts></script>|</script>", "<!--<script></scrip></script>|</script>", "<!--<script><-></script>|</script>", "<!--<script>--<></script>|</script>", "<!--<script>--</></script>|</script>",
		"<!--<script><-->|</script>", "<!--<script></-->|</script>", "<!--<script></scr-->|</script>", "<!--<script></script-->|</script>", "<!--<script-->|</script>", "<!--<scr-->|</script>", "<!--<-->|</script>", "<!--</-->|</script>", "<!--</script-->|</script>", "<!--<script/--><script>|</script>", "<!--<script/-->|</script>", "<!--<script>></script>|</script>", "<!--<script/></script>|</script>",
	} {
		ends(t, "script", s)
	}
}

// P10.5: bytes that are no UTF-8, anywhere: they are mended in the content, and counted as they are.
func TestWholeBroken(t *testing.T) {
	for _, b := range broken {
		mended := strings.Repeat("\ufffd", b.runes)
		for _, name := range []string{"title", "style", "script"} {
			tag := "</" + name + ">"
			for _, ahead := range []string{"", "x", "<", "</", "</" + name[:3], "</" + name, "<!--", "<!--x-", "<!--x--", "é"} {
				for _, behind := range []string{"", "x", "é", ">", "<", "/"} {
					s, want := ahead+b.bytes+behind, ahead+mended+behind
					says(t, name, s+tag, answer{want, len(s + tag), true})
					says(t, name, s+tag+b.bytes, answer{want, len(s + tag), true})
					says(t, name, s, answer{want, len(s), false})
				}
			}
			for n := range len(tag) - 1 { // within what looks like an end tag they part it
				s := tag[:n+1] + b.bytes + tag[n+1:]
				says(t, name, s, answer{utf.Mend(s), len(s), false})
				says(t, name, s+tag, answer{utf.Mend(s), len(s + tag), true})
			}
		}
		for _, s := range []string{"<!-?-<script>|</script>", "<!?--<script>|</script>", "<!--<scr?ipt>|</script>", "<!--<script?>|</script>", "<!--<script></script?></script>|</script>", "<!--<script></scr?ipt></script>|</script>", "<!--x-?-><script></script>|</script>", "<!--x--?><script></script>|</script>", "<!--<script>--?></script>|</script>", "<!--<?script>|</script>", "<!--?-->|</script>"} {
			content, tag, _ := strings.Cut(strings.ReplaceAll(s, "?", b.bytes), "|")
			says(t, "script", content+tag+b.bytes, answer{utf.Mend(content), len(content + tag), true})
		}
	}
	// Signs whose last bytes are those of a <, a / or a >.
	goesOn(t, "title", "\u013c/title>\u4e3c/title>\U0001003c/title></title\u013e</title\u012f")
}

// held: Whole against the model; R6: a valid text.
func held(t *testing.T, name, s string) answer {
	t.Helper()
	got := whole(t, name, s)
	if want := model(name, s); got != want {
		t.Fatalf("%s, %q: %+v; want %+v", name, s, got, want)
	}
	if !utf.Valid([]byte(got.content)) {
		t.Fatalf("%s, %q: %q", name, s, got.content)
	}
	return got
}

// P10.5: all short texts of the signs of script data.
func TestWholeSigns(t *testing.T) {
	texts(5, signs, func(s string) {
		held(t, "script", s)
		held(t, "script", "<!--"+s+"</script>")
		held(t, "script", "<!--<script>"+s+"</script>")
	})
}

// P10.5: the marks of script data in every order.
func TestWholeMarks(t *testing.T) {
	texts(4, marks, func(s string) {
		held(t, "script", s)
		held(t, "script", "<!--"+s+"</script></script>")
	})
}

// P10.5: odd pieces in every order, of every name.
func TestWholePieces(t *testing.T) {
	for _, name := range all {
		texts(3, piecesOf(name), func(s string) { held(t, name, s) })
	}
}

// P10.5: each byte in each place that matters.
func TestWholeBytes(t *testing.T) {
	for c := range 256 {
		own := string([]byte{byte(c)})
		for _, text := range []string{"</title>", "x</titLE/", "</ti</title>", "<</title>"} {
			for i := range len(text) + 1 {
				held(t, "title", text[:i]+own+text[i:])
				if i < len(text) {
					held(t, "title", text[:i]+own+text[i+1:])
				}
			}
		}
		for _, text := range []string{"<!--<script>x</script>--></script>", "<!--x</script>", "<!--<script>--><script></script>"} {
			for i := range len(text) + 1 {
				held(t, "script", text[:i]+own+text[i:])
				if i < len(text) {
					held(t, "script", text[:i]+own+text[i+1:])
				}
			}
		}
	}
}

// P10.5: nothing that stands behind the end counts.
func TestWholeBehind(t *testing.T) {
	for _, name := range all {
		texts(3, piecesOf(name), func(s string) {
			got := whole(t, name, s)
			if !got.ended {
				return
			}
			for _, behind := range []string{">", "</" + name + ">", "-->", "\xff", "\x80", "x"} {
				if more := whole(t, name, s+behind); more != got {
					t.Fatalf("%s, %q + %q: %+v; want %+v", name, s, behind, more, got)
				}
			}
			if less := whole(t, name, s[:got.size]); less != got {
				t.Fatalf("%s, %q: %+v; want %+v", name, s[:got.size], less, got)
			}
		})
	}
}

// P10.8: in RCDATA and raw text the content has no fitting end tag; no shorter beginning has one.
func TestFirstOne(t *testing.T) {
	for _, name := range append(append([]string{}, rcdata...), rawText...) {
		texts(4, []string{"</" + name, "</" + strings.ToUpper(name) + ">", "<", "/", " ", "x", name, "</", "<!--", "-->", "\xff"}, func(s string) {
			got := whole(t, name, s)
			if patterns[name].MatchString(strings.ToLower(got.content)) {
				t.Fatalf("%s, %q: %q", name, s, got.content)
			}
			if !got.ended {
				return
			}
			if tag := strings.ToLower(s[got.size-len(name)-3 : got.size]); !patterns[name].MatchString(tag) {
				t.Fatalf("%s, %q: it ends with %q", name, s, tag)
			}
			for n := range got.size {
				if less := whole(t, name, s[:n]); less.ended || less.size != n {
					t.Fatalf("%s, %q: %+v", name, s[:n], less)
				}
			}
		})
	}
}

// P10.9: a script without <!-- ends as raw text does; a name of raw text is as long.
func TestWithoutComments(t *testing.T) {
	as := strings.NewReplacer("script", "iframe", "SCRIPT", "IFRAME", "Script", "Iframe")
	parts := []string{"</script>", "</SCRIPT ", "</Script", "<script>", "<script/", "<!-", "<!", "--", "-->", ">", "<", "x", "\xff"}
	texts(4, parts, func(s string) {
		if strings.Contains(s, "<!--") {
			return
		}
		got, want := whole(t, "script", s), whole(t, "iframe", as.Replace(s))
		got.content = as.Replace(got.content)
		if got != want {
			t.Fatalf("%q: %+v; want %+v", s, got, want)
		}
	})
}

// R1: long texts, of what is held, of what nearly ends the content, and of what stands behind the end.
func TestWholeLong(t *testing.T) {
	const many = 1 << 16
	for _, name := range []string{"title", "script", "plaintext", "noscript"} {
		for _, piece := range []string{"<", "</", "</" + name, "</" + name + "x ", "x", " ", "-", "<!--", "-->", "<script>", "<!--<script>", "\xff", "é", "</" + name + ">"} {
			long := strings.Repeat(piece, many)
			for i, text := range []string{long, "x" + long + "</" + name + ">" + long, "</" + name + " " + long} {
				if whole(t, name, text) != model(name, text) {
					t.Errorf("%s, many %q, the %d-th", name, piece, i)
				}
			}
		}
	}
}
