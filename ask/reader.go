package ask

import (
	"strings"

	"gatepost/api"
	"gatepost/token"
)

// tokenBytes are those of a Token, ahead of its = signs; a word has / never, and others beside these.
const tokenBytes = "abcdefghijklmnopqrstuvwxyzABCDEFGHIJKLMNOPQRSTUVWXYZ0123456789-._~+/"

// reader goes through a header of challenges.
type reader struct {
	*token.Cursor
	text string
}

// wrong is an error at a place.
func wrong(e api.Errno, place int) error { return &api.At{Err: e, Place: place} }

// gaps goes over all blanks, tabs and commas there.
func (r reader) gaps() {
	for r.Blanks() || r.Mark(',') {
	}
}

// over says whether the end or a comma stands there: nothing of what was read goes on.
func (r reader) over() bool { return r.End() || r.text[r.At()] == ',' }

// challenge is the one that begins there, behind some others. ErrForm, ErrTwice, ErrLimit, each with its place.
func (r reader) challenge(ahead int) (api.Challenge, error) {
	began := r.At()
	x := api.Challenge{Scheme: r.Word()}
	if x.Scheme == "" {
		return api.Challenge{}, wrong(api.ErrForm, began)
	}
	if ahead >= api.MaxAsks {
		return api.Challenge{}, wrong(api.ErrLimit, began)
	}
	apart := r.Blanks()
	if r.over() {
		return x, nil
	}
	if !apart {
		return api.Challenge{}, wrong(api.ErrForm, r.At())
	}
	if x.Token = r.token(); x.Token != "" {
		return x, nil
	}
	var err error
	x.Params, err = r.params()
	return x, err
}

// token is the Token there, with its = signs, if nothing else stands behind it; else nothing, and it stays.
func (r reader) token() string {
	began := r.At()
	rest := r.text[began:]
	behind := strings.TrimLeft(rest, tokenBytes)
	if len(behind) == len(rest) {
		return ""
	}
	size := len(rest) - len(strings.TrimLeft(behind, "="))
	r.Go(began + size)
	r.Blanks()
	if !r.over() {
		r.Go(began)
		return ""
	}
	return strings.Clone(rest[:size])
}

// params are the parameters there, one at least, and the gaps behind them. ErrForm, ErrTwice, ErrLimit, each with its place.
func (r reader) params() ([]api.Param, error) {
	var l []api.Param
	for more := true; more; more = r.nameAhead() {
		p, err := r.param(l)
		if err != nil {
			return nil, err
		}
		l = append(l, p)
		r.Blanks()
		if !r.over() {
			return nil, wrong(api.ErrForm, r.At())
		}
		r.gaps()
	}
	return l, nil
}

// param is the parameter there, behind some others. ErrForm; ErrTwice: one of its name is among these; ErrLimit.
func (r reader) param(ahead []api.Param) (api.Param, error) {
	began := r.At()
	name, named := r.name()
	if !named {
		return api.Param{}, wrong(api.ErrForm, r.At())
	}
	r.Blanks()
	value, valued := r.value()
	switch {
	case !valued:
		return api.Param{}, wrong(api.ErrForm, r.At())
	case find(ahead, name) >= 0:
		return api.Param{}, wrong(api.ErrTwice, began)
	case len(ahead) >= api.MaxParams:
		return api.Param{}, wrong(api.ErrLimit, began)
	}
	return api.Param{Name: name, Value: value}, nil
}

// name is the word there, if = stands behind it; it goes over both, or to where what is missing should stand.
func (r reader) name() (string, bool) {
	word := r.Word()
	if word == "" {
		return "", false
	}
	r.Blanks()
	return word, r.Mark('=')
}

// nameAhead says whether a parameter's name stands there, and = behind it; it stays.
func (r reader) nameAhead() bool {
	began := r.At()
	_, named := r.name()
	r.Go(began)
	return named
}

// value is the word there, or the text between marks; false: neither, and it stays.
func (r reader) value() (string, bool) {
	if word := r.Word(); word != "" {
		return word, true
	}
	return r.Quoted()
}
