package chart

import (
	"slices"

	"truchman/api"
	"truchman/grammar"
	"truchman/morph"
)

// form is a form of an entry of the target lexicon.
type form struct {
	lemma       string
	entry, slot int
	feats       []api.Feat
}

// leavesOf returns the lexical items behind each place of a sentence.
func leavesOf(s api.System, words []string) [][]*head {
	analyzer, _ := morph.New(s.Source)
	forms := formsOf(s)
	var out [][]*head
	for place, word := range words {
		analyses, _ := analyzer.Analyze(word)
		out = append(out, leavesAt(s.Source, place, analyses, forms))
	}
	return out
}

// leavesAt returns the lexical items behind a place, but not many more than a forest may have.
func leavesAt(source api.Lexicon, place int, analyses []api.Analysis, forms map[string][]form) []*head {
	var out []*head
	for _, a := range analyses {
		lemma := source.Entries[a.Entry].Lemma
		left := featsOf(source, a.Entry, a.Slot)
		for _, f := range forms[lemma] {
			out = append(out, &head{
				item: Item{From: place, To: place + 1, Lex: api.Tree{Rule: -1, From: a, Entry: f.entry, Slot: f.slot}},
				as:   api.Part{From: lemma, To: f.lemma}, pair: grammar.Pair{Source: left, Target: f.feats},
			})
		}
		if len(out) > api.MaxHeads {
			break
		}
	}
	return out
}

// formsOf returns, by lemmas of the source lexicon, the forms of the target lexicon with which lexical parts put them together.
func formsOf(s api.System) map[string][]form {
	sources := map[string][]string{} // by lemmas of the target lexicon
	for _, r := range s.Rules {
		for _, p := range r.Parts {
			if p.Cat == "" && !slices.Contains(sources[p.To], p.From) {
				sources[p.To] = append(sources[p.To], p.From)
			}
		}
	}
	out := map[string][]form{}
	for entry, n := range s.Target.Entries {
		if len(sources[n.Lemma]) == 0 {
			continue
		}
		words, _ := morph.Forms(s.Target, entry)
		for slot, word := range words {
			if word == "" {
				continue
			}
			f := form{n.Lemma, entry, slot, featsOf(s.Target, entry, slot)}
			for _, lemma := range sources[n.Lemma] {
				out[lemma] = append(out[lemma], f)
			}
		}
	}
	return out
}

// featsOf returns the bundle of an entry's slot of a valid lexicon. morph.Feats would look at all of the lexicon each time.
func featsOf(l api.Lexicon, entry, slot int) []api.Feat {
	n := l.Entries[entry]
	class := slices.IndexFunc(l.Classes, func(c api.Class) bool { return c.Name == n.Class })
	b, _ := morph.Unify(n.Feats, l.Classes[class].Slots[slot].Feats)
	return b
}
