// Package peak: the greatest numbers of heads. It is no layer: store keeps a peak for maplog, whose numbers are to be greater than those of pages, too, that were dropped, for a crash may bring these back.
package peak

import "scullery/api"

// Peak is the greatest Seq and the greatest Gen of some heads: 0 and 0 of none.
type Peak struct{ seq, gen int }

// With answers the peak of these heads and one more.
func (p Peak) With(h api.Head) Peak {
	return Peak{seq: max(p.seq, h.Seq), gen: max(p.gen, h.Gen)}
}

// Greatest answers the greatest Seq and the greatest Gen.
func (p Peak) Greatest() (int, int) {
	return p.seq, p.gen
}
