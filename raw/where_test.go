package raw_test

import (
	"strings"
	"testing"

	"sieve/api"
	"sieve/names"
	"sieve/raw"
)

// P10.1: the names of the two sets, script, plaintext.
func TestWhere(t *testing.T) {
	for where, list := range map[api.Where][]string{
		api.InRcdata: rcdata, api.InRawtext: rawText, api.InScript: {"script"}, api.InPlaintext: {"plaintext"}, api.InData: others,
	} {
		for _, name := range list {
			if got := raw.Where(name); got != where {
				t.Errorf("%q: %d; want %d", name, got, where)
			}
		}
	}
}

// P10.1: every name that is known, by its sets.
func TestWhereKnown(t *testing.T) {
	for _, name := range append(names.Known(), "script", "plaintext") {
		want := api.InData
		switch {
		case names.In(name, api.SetRcdata):
			want = api.InRcdata
		case names.In(name, api.SetRaw):
			want = api.InRawtext
		case name == "script":
			want = api.InScript
		case name == "plaintext":
			want = api.InPlaintext
		}
		if got := raw.Where(name); got != want {
			t.Errorf("%s: %d; want %d", name, got, want)
		}
		if got := raw.Where(strings.ToUpper(name)); got != api.InData {
			t.Errorf("%s in capitals: %d", name, got)
		}
	}
}

// P10.1: names with any one byte of them another one, or in capitals.
func TestWhereBytes(t *testing.T) {
	for _, name := range all {
		for i := range len(name) {
			for c := range 256 {
				b := []byte(name)
				b[i] = byte(c)
				if string(b) != name && raw.Where(string(b)) != api.InData {
					t.Errorf("%q: %d", b, raw.Where(string(b)))
				}
			}
		}
	}
}

// P10.2, P10.5, P10.6: names whose content is read as data, whatever the text.
func TestNoRawName(t *testing.T) {
	for _, name := range others {
		if s, e := raw.New(name); s != nil || e != api.ErrRawName {
			t.Errorf("New(%q): %v, %d", name, s, e)
		}
		for _, s := range []string{"", "x", "</" + name + ">", "a</" + name + " ", "\xff", "</title>", "<!--"} {
			if content, n, ended, e := raw.Whole(name, s); content != "" || n != 0 || ended || e != api.ErrRawName {
				t.Errorf("Whole(%q, %q): %q, %d, %v, %d", name, s, content, n, ended, e)
			}
			if ok, e := raw.Safe(name, s); ok || e != api.ErrRawName {
				t.Errorf("Safe(%q, %q): %v, %d", name, s, ok, e)
			}
		}
	}
	long := strings.Repeat("title", 1<<20)
	if s, e := raw.New(long); s != nil || e != api.ErrRawName {
		t.Errorf("New of a long name: %d", e)
	}
}
