package rope

import "sheafworks/api"

// kind is what nodes of a kind are made of, and their fields that are not used.
type kind struct {
	parts  func(*store, node) spans
	unused func(node) []int
}

// kinds returns all kinds.
func kinds() [4]kind {
	return [...]kind{
		api.RopeWords: {(*store).ofWords, node.besideWords},
		api.RopeCat:   {(*store).ofCat, node.besideCat},
		api.RopePart:  {(*store).ofPart, node.besidePart},
		api.RopeOff:   {(*store).ofOff, node.besideOff},
	}
}

// parts returns what a node is made of, beside words of its own.
func (s *store) parts(n api.RopeNode) spans { return kinds()[n.Kind].parts(s, node(n)) }

func (s *store) ofWords(node) spans { return s.all() }

func (s *store) ofCat(n node) spans { return s.all(n.A, n.B) }

func (s *store) ofPart(n node) spans {
	return spans{{rope: n.A, from: n.From, many: n.Len}}
}

func (s *store) ofOff(n node) spans {
	return spans{{rope: n.A, many: s.lens[n.A], add: n.N}}
}

// all returns all of some ropes; where there is no rope of a number, it has no words.
func (s *store) all(ropes ...int) spans {
	var l spans
	for _, a := range ropes {
		l = append(l, span{rope: a, many: s.lens[a]})
	}
	return l
}

// node is a node of whatever kind.
type node api.RopeNode

func (n node) besideWords() []int { return []int{n.A, n.B, n.From, n.Len, n.N} }

func (n node) besideCat() []int { return []int{n.From, n.Len, n.N, len(n.Words)} }

func (n node) besidePart() []int { return []int{n.B, n.N, len(n.Words)} }

func (n node) besideOff() []int { return []int{n.B, n.From, n.Len, len(n.Words)} }
