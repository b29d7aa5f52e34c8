package morph

import "iter"

// letters is how many letters there are.
const letters = 'z' - 'a' + 1

// form is an entry and a slot, with the links by which their form may be a first part.
type form struct {
	entry, slot int
	links       []int
}

// node stands behind the letters that lead to it.
type node struct {
	next  [letters]int // the nodes behind one more letter; 0, the root, stands for none, since it is behind no letter
	forms []form       // those that are spelled by these letters, in the order in which they were added
}

// tree is the letters of all forms; its first node is the root. A tree that was made has a root.
type tree []node

// step returns the node behind one more byte; 0 if there is none.
func (t tree) step(at int, b byte) int {
	if !isLetter(b) {
		return 0
	}
	return t[at].next[b-'a']
}

// add puts a form in that is spelled as a plain word.
func (t *tree) add(word string, f form) {
	at := 0
	for i := range len(word) {
		next := t.step(at, word[i])
		if next == 0 {
			next = len(*t)
			*t = append(*t, node{})
			(*t)[at].next[word[i]-'a'] = next
		}
		at = next
	}
	(*t)[at].forms = append((*t)[at].forms, f)
}

// prefixes tells the words with which s begins, the shortest one first: how many bytes each has, and its forms.
func (t tree) prefixes(s string) iter.Seq2[int, []form] {
	return func(yield func(int, []form) bool) {
		at := 0
		for i := range len(s) {
			at = t.step(at, s[i])
			if at == 0 || len(t[at].forms) > 0 && !yield(i+1, t[at].forms) {
				return
			}
		}
	}
}

// words tells all words and their forms, increasing; none of a tree without a root.
func (t tree) words() iter.Seq2[string, []form] {
	return func(yield func(string, []form) bool) {
		if len(t) > 0 {
			t.walk(0, nil, yield)
		}
	}
}

// walk tells the words from a node on, to which spelled leads; false if yield wants no more.
func (t tree) walk(at int, spelled []byte, yield func(string, []form) bool) bool {
	if len(t[at].forms) > 0 && !yield(string(spelled), t[at].forms) {
		return false
	}
	for letter, next := range t[at].next {
		if next != 0 && !t.walk(next, append(spelled, 'a'+byte(letter)), yield) {
			return false
		}
	}
	return true
}
