package markup_test

import (
	"strings"
	"testing"

	"sieve/markup"
)

// opens: Open says so.
func opens(t *testing.T, s string, kind, size int) {
	t.Helper()
	if k, n := markup.Open(s); k != kind || n != size {
		t.Errorf("%q: %d, %d; want %d, %d", s, k, n, kind, size)
	}
}

// P9.1: the kinds are counted from 0 on.
func TestKinds(t *testing.T) {
	if markup.Comment != 0 || markup.Doctype != 1 || markup.Bogus != 2 {
		t.Errorf("%d, %d, %d", markup.Comment, markup.Doctype, markup.Bogus)
	}
}

// P9.1: the chapter's examples.
func TestOpenExamples(t *testing.T) {
	opens(t, "--x", markup.Comment, 2)
	opens(t, "DocType html", markup.Doctype, 7)
	opens(t, "[CDATA[x]]>", markup.Bogus, 0)
	opens(t, "-", markup.Bogus, 0)
}

// P9.1: what begins a comment, a doctype, and neither.
func TestOpen(t *testing.T) {
	for _, s := range []string{"--", "---", "-->", "--!>", "--\xff", "--\x00", "--doctype", "-- -"} {
		opens(t, s, markup.Comment, 2)
	}
	for _, s := range []string{"doctype", "DOCTYPE", "DocType", "dOCtYPE", "doctype html>", "doctypes", "doctype>", "doctype\xff", "doctype--", "DOCTYPEé", "doctype\x00"} {
		opens(t, s, markup.Doctype, 7)
	}
	for _, s := range []string{
		"", ">", "-", "->", "- -", "-x", "-é", " --", "!--", "x--", "<!--", "——", "\u2010\u2010", "\xad\xad",
		"doctyp", "DOCTYP", "d", "doctyp ", "doctyp>", "octype", "doc type", " doctype", "-doctype", "ddoctype", "doctxpe", "doctyep",
		"doctypé", "DOCTYPÉ", "dоctype", "doctyp\xc3", "doctyp\xc3\xa9", "doctyp\xff", "\xffoctype", "doc\x00ype", "ｄoctype", "ｄｏｃｔｙｐｅ", "doctуpe", "ďoctype", "doctyp\U0001F600",
		"[CDATA[", "[cdata[", "[CDATA[]]>", "ELEMENT", "html", "\x00", "\xff",
	} {
		opens(t, s, markup.Bogus, 0)
	}
}

// P9.1: the seven letters with every choice of capitals; and each of these one letter short.
func TestOpenCapitals(t *testing.T) {
	for bits := range 1 << 7 {
		word := []byte("doctype")
		for i := range word {
			if bits>>i&1 == 1 {
				word[i] = strings.ToUpper(string(word[i : i+1]))[0]
			}
		}
		for _, behind := range []string{"", " ", ">", "x", "\x80", "é"} {
			opens(t, string(word)+behind, markup.Doctype, 7)
		}
		for n := range 7 {
			opens(t, string(word[:n]), markup.Bogus, 0)
			opens(t, string(word[:n])+string(word[n+1:])+" ", markup.Bogus, 0)
		}
	}
}

// P9.1: every byte in the place of each one that counts.
func TestOpenBytes(t *testing.T) {
	for c := range 256 {
		own := byte(c)
		for i := range 7 {
			b := []byte("doctype html")
			was := b[i]
			b[i] = own
			if own == was || own == was-32 {
				opens(t, string(b), markup.Doctype, 7)
			} else {
				opens(t, string(b), markup.Bogus, 0)
			}
		}
		for i := range 2 {
			b := []byte("--x")
			b[i] = own
			if own == '-' {
				opens(t, string(b), markup.Comment, 2)
			} else {
				opens(t, string(b), markup.Bogus, 0)
			}
		}
	}
}

// P9.1: a rune beyond ASCII that is some letter in another case, in each place: none is one of the seven.
func TestOpenRunes(t *testing.T) {
	for r := rune(0x80); r <= 0x2FFFF; r++ {
		s := string(r)
		for _, i := range []int{0, 1, 2, 3, 4, 5, 6} {
			if k, n := markup.Open("doctype"[:i] + s + "doctype"[i+1:]); k != markup.Bogus || n != 0 {
				t.Fatalf("%x at %d: %d, %d", r, i, k, n)
			}
		}
	}
}

// P9.1: what stands behind what says it counts nothing.
func TestOpenPieces(t *testing.T) {
	texts(3, append([]string{"doctype", "DOCTYPE", "doc", "Type"}, pieces...), func(s string) {
		kind, size := markup.Bogus, 0
		if strings.HasPrefix(s, "--") {
			kind, size = markup.Comment, 2
		} else if len(s) >= 7 && strings.ToLower(s[:7]) == "doctype" {
			kind, size = markup.Doctype, 7
		}
		opens(t, s, kind, size)
	})
}
