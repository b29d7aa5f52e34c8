package morph

import "truchman/api"

// Build returns the word of an analysis.
func Build(l api.Lexicon, x api.Analysis) (string, api.Errno) {
	if e := Check(l); e != api.OK {
		return "", e
	}
	if len(x.Firsts) > api.MaxFirsts {
		return "", api.ErrLimit
	}
	word, ok := join(l, x)
	if !ok {
		return "", api.ErrNone
	}
	return word, api.OK
}

// join returns the word of an analysis by a valid lexicon; false if there is none.
func join(l api.Lexicon, x api.Analysis) (string, bool) {
	out := ""
	for _, f := range x.Firsts {
		form, ok := formAt(l, f.Entry, f.Slot)
		if !ok || !linked(l, f) {
			return "", false
		}
		out += form + l.Links[f.Link].Glue
	}
	form, ok := formAt(l, x.Entry, x.Slot)
	out += form
	if !ok || len(out) > api.MaxWord {
		return "", false
	}
	return out, true
}

// linked reports whether there is the link of a first part, and it is for the class and the bundle of that.
func linked(l api.Lexicon, f api.First) bool {
	n, s, ok := place(l, f.Entry, f.Slot)
	if !ok || f.Link < 0 || f.Link >= len(l.Links) {
		return false
	}
	k := l.Links[f.Link]
	return k.Class == n.Class && Subsumes(k.Feats, feats(n, s))
}
