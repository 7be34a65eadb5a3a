package bank

import (
	"bytes"
	"encoding/gob"
	"fmt"
	"maps"
	"reflect"
	"regexp"
	"slices"
	"strings"
	"testing"

	"gatepost/api"
	"gatepost/plain"
)

// ruleBank is a bank told by other means: by keys, with the hour at which each was laid down last, and all of it as bytes.
type ruleBank struct {
	hour   int
	grants map[string]laid
	waits  map[string]laid
}

// laid is something that was laid down at an hour.
type laid struct {
	hour  int
	bytes string
}

// freeze is a thing as bytes, thaw the thing again.
func freeze(x any) string {
	var out bytes.Buffer
	if err := gob.NewEncoder(&out).Encode(x); err != nil {
		panic(err)
	}
	return out.String()
}

func thaw[T any](s string) (x T) {
	if err := gob.NewDecoder(strings.NewReader(s)).Decode(&x); err != nil {
		panic(err)
	}
	return x
}

func key(o api.Origin, proxy bool, realm ...string) string {
	return fmt.Sprintf("%t %q %d %t %q", o.Secure, o.Host, o.Port, proxy, realm)
}

// byHour are the keys of what was laid down, the oldest one first.
func byHour(m map[string]laid) []string {
	return slices.SortedFunc(maps.Keys(m), func(x, y string) int { return m[x].hour - m[y].hour })
}

// lay puts something down, and takes the oldest ones away, while there are too many.
func (r *ruleBank) lay(m map[string]laid, key string, x any) map[string]laid {
	if m == nil {
		m = map[string]laid{}
	}
	r.hour++
	m[key] = laid{r.hour, freeze(x)}
	for len(m) > 8 {
		delete(m, byHour(m)[0])
	}
	return m
}

func (r *ruleBank) Grants() (l []api.Grant) {
	for _, k := range byHour(r.grants) {
		l = append(l, thaw[api.Grant](r.grants[k].bytes))
	}
	return l
}

func (r *ruleBank) Waits() (l []Wait) {
	for _, k := range byHour(r.waits) {
		l = append(l, thaw[Wait](r.waits[k].bytes))
	}
	return l
}

func (r *ruleBank) Copy() *ruleBank {
	return &ruleBank{r.hour, maps.Clone(r.grants), maps.Clone(r.waits)}
}

// Find looks for spaces that are the beginnings of the path, the longest one first, and asks the youngest grant first.
func (r *ruleBank) Find(o api.Origin, proxy bool, path string) (api.Grant, bool) {
	l := r.Grants()
	slices.Reverse(l)
	for end := len(path); end >= 0; end-- {
		for _, g := range l {
			if key(g.Origin, g.Proxy) == key(o, proxy) && slices.Contains(g.Paths, path[:end]) {
				return g, true
			}
		}
	}
	return api.Grant{}, false
}

func (r *ruleBank) Use(o api.Origin, proxy bool, path string) (api.Grant, error) {
	g, ok := r.Find(o, proxy, path)
	if !ok {
		return api.Grant{}, api.ErrNone
	}
	if g.Count > 4294967294 {
		r.Drop(o, proxy, g.Ask.Realm)
		return api.Grant{}, api.ErrFull
	}
	g.Count++
	r.Put(g)
	return g, nil
}

func (r *ruleBank) Put(g api.Grant) {
	r.grants = r.lay(r.grants, key(g.Origin, g.Proxy, g.Ask.Realm), g)
}

func (r *ruleBank) Drop(o api.Origin, proxy bool, realm string) bool {
	_, ok := r.grants[key(o, proxy, realm)]
	delete(r.grants, key(o, proxy, realm))
	return ok
}

func (r *ruleBank) Get(o api.Origin, proxy bool, realm string) (g api.Grant, ok bool) {
	x, ok := r.grants[key(o, proxy, realm)]
	if ok {
		g = thaw[api.Grant](x.bytes)
	}
	return g, ok
}

func (r *ruleBank) Asked(w Wait) { r.waits = r.lay(r.waits, key(w.Origin, w.Proxy), w) }

func (r *ruleBank) Take(o api.Origin, proxy bool) (w Wait, ok bool) {
	x, ok := r.waits[key(o, proxy)]
	if ok {
		w = thaw[Wait](x.bytes)
	}
	delete(r.waits, key(o, proxy))
	return w, ok
}

func (r *ruleBank) Sweep(o api.Origin) (n int) {
	for _, g := range r.Grants() {
		if key(g.Origin, false) == key(o, false) && r.Drop(g.Origin, g.Proxy, g.Ask.Realm) {
			n++
		}
	}
	r.Take(o, false)
	r.Take(o, true)
	return n
}

var dirForm = regexp.MustCompile(`(?s)^(?:.*/)?`)

func ruleSpace(a api.Ask, proxy bool, path string) []string {
	all := map[bool][]string{true: {"/"}, false: a.Domain}
	if !proxy && a.Scheme == 1 {
		return []string{dirForm.FindString(path)}
	}
	return all[proxy || len(a.Domain) == 0]
}

// tellGrant, tellWait and their likes are what a test holds against each other: an empty list is one, nil or not.
func tellGrant(g api.Grant) string {
	return fmt.Sprintf("grant %s %q %q, %s, count %d, paths %q", key(g.Origin, g.Proxy), g.Creds.User, g.Creds.Pass, tellAsk(g.Ask), g.Count, g.Paths)
}

func tellAsk(a api.Ask) string {
	return fmt.Sprintf("ask %d %q %q %q %t %q %t %q", a.Scheme, a.Realm, a.Nonce, a.Opaque, a.Sess, a.Qop, a.Stale, a.Domain)
}

func tellWait(w Wait) string {
	return fmt.Sprintf("wait %s %q %s", key(w.Origin, w.Proxy), w.Path, tellAsk(w.Ask))
}

func tellGrants(l []api.Grant) string {
	var out []string
	for _, g := range l {
		out = append(out, tellGrant(g))
	}
	return strings.Join(out, "\n")
}

func tellWaits(l []Wait) string {
	var out []string
	for _, w := range l {
		out = append(out, tellWait(w))
	}
	return strings.Join(out, "\n")
}

func tellUse(g api.Grant, err error) string {
	e, place := plain.Place(err)
	return fmt.Sprint(tellGrant(g), " error ", int(e), " at ", place)
}

// same asks whether two texts are the same.
func same(t *testing.T, what, got, want string) {
	t.Helper()
	if got != want {
		t.Errorf("%s: %s\nwant: %s", what, got, want)
	}
}

// wantGrants and wantWaits: a bank has these, in this order.
func wantGrants(t *testing.T, b *Bank, want ...api.Grant) {
	t.Helper()
	same(t, "Grants", tellGrants(b.Grants()), tellGrants(want))
}

func wantWaits(t *testing.T, b *Bank, want ...Wait) {
	t.Helper()
	same(t, "Waits", tellWaits(b.Waits()), tellWaits(want))
}

// wantFind and its likes: what is found is this one; without one: none is.
func wantFind(t *testing.T, b *Bank, o api.Origin, proxy bool, path string, want ...api.Grant) {
	t.Helper()
	before := tellGrants(b.Grants())
	g, ok := b.Find(o, proxy, path)
	wantOne(t, fmt.Sprintf("Find(%v, %v, %q)", o, proxy, path), g, ok, want)
	same(t, "Grants behind Find", tellGrants(b.Grants()), before)
}

func wantGet(t *testing.T, b *Bank, o api.Origin, proxy bool, realm string, want ...api.Grant) {
	t.Helper()
	before := tellGrants(b.Grants())
	g, ok := b.Get(o, proxy, realm)
	wantOne(t, fmt.Sprintf("Get(%v, %v, %q)", o, proxy, realm), g, ok, want)
	same(t, "Grants behind Get", tellGrants(b.Grants()), before)
}

func wantOne(t *testing.T, what string, g api.Grant, ok bool, want []api.Grant) {
	t.Helper()
	if len(want) == 0 {
		same(t, what, fmt.Sprint(tellGrant(g), ok), fmt.Sprint(tellGrant(api.Grant{}), false))
		return
	}
	same(t, what, fmt.Sprint(tellGrant(g), ok), fmt.Sprint(tellGrant(want[0]), true))
}

func wantTake(t *testing.T, b *Bank, o api.Origin, proxy bool, want ...Wait) {
	t.Helper()
	w, ok := b.Take(o, proxy)
	wanted, wantOK := Wait{}, len(want) > 0
	if wantOK {
		wanted = want[0]
	}
	same(t, fmt.Sprintf("Take(%v, %v)", o, proxy), fmt.Sprint(tellWait(w), ok), fmt.Sprint(tellWait(wanted), wantOK))
}

func wantUse(t *testing.T, b *Bank, o api.Origin, proxy bool, path string, want api.Grant, wantErr api.Errno) {
	t.Helper()
	g, err := b.Use(o, proxy, path)
	var wanted error
	if wantErr != api.OK {
		wanted = wantErr
	}
	same(t, fmt.Sprintf("Use(%v, %v, %q)", o, proxy, path), tellUse(g, err), tellUse(want, wanted))
}

func wantSpace(t *testing.T, a api.Ask, proxy bool, path string, want ...string) {
	t.Helper()
	same(t, fmt.Sprintf("Space(%+v, %v, %q)", a, proxy, path), fmt.Sprintf("%q", Space(a, proxy, path)), fmt.Sprintf("%q", want))
}

// stretch is a piece of memory.
type stretch struct{ from, to uintptr }

// memory is where the texts and lists of things lie, with what stands behind a list's length.
func memory(things ...any) (l []stretch) {
	for _, x := range things {
		l = walk(l, reflect.ValueOf(x))
	}
	return l
}

func walk(l []stretch, v reflect.Value) []stretch {
	switch v.Kind() {
	case reflect.String:
		if v.Len() > 0 {
			from := uintptr(reflect.ValueOf(v.String()).UnsafePointer())
			l = append(l, stretch{from, from + uintptr(v.Len())})
		}
	case reflect.Slice:
		if v.Cap() > 0 {
			from := v.Pointer()
			l = append(l, stretch{from, from + uintptr(v.Cap())*v.Type().Elem().Size()})
		}
		for i := range v.Len() {
			l = walk(l, v.Index(i))
		}
	case reflect.Struct:
		for i := range v.NumField() {
			l = walk(l, v.Field(i))
		}
	case reflect.Pointer:
		l = walk(l, v.Elem())
	}
	return l
}

// apart: no piece of memory of the one is one of the other.
func apart(t *testing.T, what string, one, other []stretch) {
	t.Helper()
	if len(one) == 0 || len(other) == 0 {
		t.Errorf("%s: there is nothing to be held apart", what)
	}
	for _, x := range one {
		for _, y := range other {
			if x.from < y.to && y.from < x.to {
				t.Errorf("%s: memory is shared", what)
				return
			}
		}
	}
}

// inItself: no two lists of one thing share memory.
func inItself(t *testing.T, what string, l []stretch) {
	t.Helper()
	slices.SortFunc(l, func(x, y stretch) int { return int(x.from) - int(y.from) })
	for i := 1; i < len(l); i++ {
		if l[i].from < l[i-1].to {
			t.Errorf("%s: its parts share memory", what)
		}
	}
}
