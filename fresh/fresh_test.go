package fresh

import (
	"slices"
	"strings"
	"testing"
	"unsafe"

	"gatepost/api"
)

// apart asks that two texts are the same, and share no memory.
func apart(t *testing.T, call, in, out string) {
	t.Helper()
	if in != out || in == "" {
		t.Fatalf("%s(%q) = %q", call, in, out)
	}
	if unsafe.StringData(in) == unsafe.StringData(out) {
		t.Errorf("%s(%q): not fresh memory", call, in)
	}
}

func TestOrigin(t *testing.T) {
	for _, o := range []api.Origin{{}, {Secure: true, Host: "a.test", Port: 443}, {Host: "A b\xff", Port: -1}} {
		if got := Origin(o); got != o {
			t.Errorf("Origin(%+v) = %+v", o, got)
		}
	}
	o := api.Origin{Host: strings.Clone("a.test")}
	apart(t, "Origin", o.Host, Origin(o).Host)
}

func TestURL(t *testing.T) {
	o := api.Origin{Secure: true, Host: "a.test", Port: 443}
	for _, u := range []api.URL{{}, {Origin: o, Path: "/a", Query: "q"}, {Origin: o}, {Path: "no\xff"}, {Query: "q"}} {
		if got := URL(u); got != u {
			t.Errorf("URL(%+v) = %+v", u, got)
		}
	}
	u := api.URL{Origin: api.Origin{Host: strings.Clone("a.test")}, Path: strings.Clone("/a"), Query: strings.Clone("q")}
	got := URL(u)
	apart(t, "URL", u.Host, got.Host)
	apart(t, "URL", u.Path, got.Path)
	apart(t, "URL", u.Query, got.Query)
}

// TestEach: in order, in a list of its own; nothing is written into the one that is handed in, nor behind it.
func TestEach(t *testing.T) {
	if got := Each(nil, strings.Clone); len(got) != 0 {
		t.Errorf("Each of none = %q", got)
	}
	l := []string{"a", "b", "c", "behind"}
	got := Each(l[:3], strings.ToUpper)
	if !slices.Equal(got, []string{"A", "B", "C"}) {
		t.Errorf("Each = %q", got)
	}
	got = append(got, "more")
	got[0] = "spoilt"
	if !slices.Equal(l, []string{"a", "b", "c", "behind"}) {
		t.Errorf("written into: %q", l)
	}
}
