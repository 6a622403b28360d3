package peak_test

import (
	"testing"

	"scullery/api"
	"scullery/peak"
)

// wantGreatest fails, if a peak tells other numbers.
func wantGreatest(t *testing.T, p peak.Peak, seq, gen int) {
	t.Helper()
	if a, b := p.Greatest(); a != seq || b != gen {
		t.Errorf("Greatest: %d, %d, not %d, %d", a, b, seq, gen)
	}
}

// The greatest Seq and the greatest Gen may be of two heads, and come in any order; a peak stays as it is.
func TestPeak(t *testing.T) {
	var none peak.Peak
	one := none.With(api.Head{Kind: api.KindData, Addr: 99, Seq: 5, Gen: 2})
	more := one.With(api.Head{Kind: api.KindSeg, Seq: 4, Gen: 7})
	most := more.With(api.Head{Kind: api.KindNote, Seq: api.MaxSeq, Gen: api.MaxGen})
	wantGreatest(t, none, 0, 0)
	wantGreatest(t, one, 5, 2)
	wantGreatest(t, more, 5, 7)
	wantGreatest(t, most, api.MaxSeq, api.MaxGen)
	wantGreatest(t, most.With(api.Head{Seq: 1}), api.MaxSeq, api.MaxGen)
}
