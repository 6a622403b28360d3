package ssc

import (
	"slices"

	"scullery/api"
	"scullery/note"
	"scullery/plan"
	"scullery/victim"
	"scullery/wear"
)

// How blocks of the chip are shared out. If all entries that may be dirty stood close together, they had plan's Room of them; a checkpoint has plan's Check at most, and so has the one ahead of it, till that is whole. So five are left. Of these some hold entries, too, or blocks might have to be emptied that are full; the others are what pages go to.
const besides = 3

// few is how many blocks fewer hold entries behind a checkpoint, where that costs little: so that not each write makes one.
const few = 2

// changed is how many pages a change puts: a block, and the note of it.
const changed = 2

// rounds is how many checkpoints are made at most to make room once.
const rounds = 3

// levelled is how many blocks are levelled at once: one page of notes can tell of several that have few entries.
const levelled = 3

// ready makes room for a change, and evens out wear. Where blocks failed there may be too little room behind it.
func (d *Device) ready() error {
	// So each block is levelled once at most.
	for range d.Chip().Geometry().Blocks / levelled {
		if e := d.gather(); e != nil {
			return e
		}
		bs := d.cold()
		if len(bs) == 0 || d.isCrowded() {
			return nil
		}
		if e := d.level(bs); e != nil {
			return e
		}
	}
	return d.gather()
}

// isCrowded tells whether there has to be made room ahead of a change.
func (d *Device) isCrowded() bool {
	return d.isShort() || d.over() > 0
}

// isShort tells whether there might be too little room for a checkpoint behind a change, and a crash, by which the rest of the block is lost that pages go to; and should a block fail, it's one less.
func (d *Device) isShort() bool {
	g := d.Chip().Geometry()
	return d.Store().Room() < (plan.Of(g).Check+1)*g.Pages+changed
}

// over answers how many blocks too many hold entries, of those that no page goes to.
func (d *Device) over() int {
	many := 0
	for _, b := range d.Store().Sealed() {
		if len(d.owned(b)) > 0 {
			many++
		}
	}
	return many + d.Store().Bad() - plan.Of(d.Chip().Geometry()).Room - besides
}

// owned answers the addresses whose blocks stand in a block of the chip.
func (d *Device) owned(b int) []uint64 {
	pages := d.Chip().Geometry().Pages
	return d.owners.Range(b*pages, (b+1)*pages)
}

// gather makes room: a checkpoint stands for all notes, and behind it blocks can be emptied.
func (d *Device) gather() error {
	for range rounds {
		if !d.isCrowded() {
			return nil
		}
		if e := unlessFull(d.checkpoint()); e != nil {
			return e
		}
		if e := unlessFull(d.sweep()); e != nil {
			return e
		}
	}
	return nil
}

// checkpoint makes a checkpoint, and begins another block behind it: so the blocks that it takes are free as soon as there is another one.
func (d *Device) checkpoint() error {
	if e := d.Check(); e != nil {
		return e
	}
	return d.pad()
}

// pad sees to it that the next page goes to another block than the last one.
func (d *Device) pad() error {
	s := d.Store()
	for s.Room()%d.Chip().Geometry().Pages > 0 {
		page, e := s.Put(nobodys(d.Number()), blank(d.Chip()))
		if e != nil {
			return e
		}
		s.Drop(page)
	}
	return nil
}

// sweep empties blocks, the best ones ahead, as long as too many hold entries, or it costs little.
func (d *Device) sweep() error {
	for {
		bs := d.batch()
		if len(bs) == 0 {
			return nil
		}
		if e := d.empty(bs); e != nil {
			return e
		}
	}
}

// batch answers blocks that are emptied together, as many as one page of notes tells of: a page of notes for each of them might be all that is won.
func (d *Device) batch() []int {
	g := d.Chip().Geometry()
	over, room, isShort, seq := d.over(), d.Store().Room(), d.isShort(), d.Number()
	var bs []int
	var ns []api.Note
	copies := 0
	vs := d.victims()
	for _, b := range victim.Order(vs...) {
		v := vs[slices.IndexFunc(vs, func(v victim.Block) bool { return v.ID == b })]
		gain := victim.Gain(g.Pages, v)
		// The copies have blocks, too.
		left := over - len(bs) + (copies+g.Pages-1)/g.Pages
		isCheap := left > -few && 2*gain >= g.Pages
		if gain == 0 || left < 0 && !isShort && !isCheap {
			break
		}
		copies += victim.Cost(v)
		ns = append(ns, d.noted(b, seq)...)
		if copies >= room || len(bs) > 0 && note.Fit(g.Size, ns...) < len(ns) {
			break
		}
		bs = append(bs, b)
	}
	return bs
}

// victims answers the blocks that no page goes to before they are empty.
func (d *Device) victims() []victim.Block {
	var vs []victim.Block
	for _, b := range d.Store().Sealed() {
		v := victim.Block{ID: b, Other: d.others(b), Wear: d.Chip().Wear(b)}
		for _, addr := range d.owned(b) {
			if one, _ := d.Find(addr); one.Dirty {
				v.Dirty++
			} else {
				v.Clean++
			}
		}
		vs = append(vs, v)
	}
	return vs
}

// others answers how many pages of a block of the chip are notes, and parts of a checkpoint.
func (d *Device) others(b int) int {
	return len(d.Store().Block(b)) - len(d.owned(b))
}

// noted answers notes that have as many bytes at least as those of emptying a block, if all numbers so far are below one.
func (d *Device) noted(b, seq int) []api.Note {
	pages := plan.Of(d.Chip().Geometry()).Pages
	var ns []api.Note
	for _, addr := range d.owned(b) {
		ns = append(ns, api.Note{Entry: api.Entry{Addr: addr, Page: pages - 1, Seq: seq + pages}})
	}
	return ns
}

// empty copies the dirty blocks that stand in some blocks of the chip, and gives the clean ones up.
func (d *Device) empty(bs []int) error {
	var ns []api.Note
	for _, b := range bs {
		for _, addr := range d.owned(b) {
			n, e := d.moved(addr)
			if e != nil {
				d.abandon(ns)
				return e
			}
			ns = append(ns, n)
		}
	}
	return d.commit(ns...)
}

// moved copies a dirty block, and answers the note of what becomes of a block.
func (d *Device) moved(addr uint64) (api.Note, error) {
	one, _ := d.Find(addr)
	if !one.Dirty {
		return d.gone(addr), nil
	}
	data, _, e := d.Store().Get(one.Page)
	if e != nil {
		return api.Note{}, e
	}
	return d.put(addr, data, true)
}

// abandon drops the copies that notes tell of.
func (d *Device) abandon(ns []api.Note) {
	for _, n := range ns {
		if !n.Gone {
			d.settle(n.Entry)
		}
	}
}

// cold answers blocks that are worn much less than the one that is worn most, and that no page goes to: the least worn ahead.
func (d *Device) cold() []int {
	blocks := d.Chip().Geometry().Blocks
	ws, counts, isSealed := make([]int, blocks), make([]bool, blocks), make([]bool, blocks)
	for b := range blocks {
		ws[b], counts[b] = d.Chip().Wear(b), !d.Chip().Marked(b)
	}
	for _, b := range d.Store().Sealed() {
		isSealed[b] = true
	}
	most := wear.Greatest(ws, counts)
	var bs []int
	for _, b := range wear.Order(ws, isSealed) {
		if len(bs) == levelled || ws[most]-ws[b] <= api.Threshold {
			break
		}
		bs = append(bs, b)
	}
	return bs
}

// level empties blocks, whatever is won: what is put next goes there, for they are worn least.
func (d *Device) level(bs []int) error {
	g := d.Chip().Geometry()
	// Behind a crash amid this there may be two free blocks fewer, and there must be room for a checkpoint still.
	isShort := d.Store().Room() < (plan.Of(g).Check+2)*g.Pages
	// Notes and parts of checkpoints aren't moved, but another checkpoint stands for them.
	if isShort || slices.ContainsFunc(bs, func(b int) bool { return d.others(b) > 0 }) {
		return unlessFull(d.checkpoint())
	}
	return unlessFull(d.empty(bs))
}

// unlessFull answers an error, but for want of room: then things stay as they are.
func unlessFull(e error) error {
	if api.Code(e) == api.ErrFull {
		return nil
	}
	return e
}
