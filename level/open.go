package level

import "parquetry/api"

// entry is one thing that is open: a paragraph, an embedding, or an isolate.
type entry struct {
	level    int
	override int
	isolate  bool
}

// lost counts what could not be opened, and is not closed yet.
type lost struct {
	lostIsolates, lostEmbeddings int
}

// opened is what is open at a place, from the paragraph inward.
type opened struct {
	lost
	entries  []entry
	isolates int
}

// paragraph answers what is open where a paragraph of that level begins.
func paragraph(level int) *opened {
	return &opened{entries: []entry{{level: level, override: none}}}
}

func (o *opened) last() entry {
	return o.entries[len(o.entries)-1]
}

// odd answers the least odd level above the last one.
func (o *opened) odd() int {
	return (o.last().level + 1) | 1
}

// even answers the least even level above the last one.
func (o *opened) even() int {
	return (o.last().level + 2) &^ 1
}

// tell answers the level of a class, and as what it is told.
func (o *opened) tell(class int) (level, told int) {
	last := o.last()
	switch {
	case Removed(class):
		return none, class
	case class == api.BidiB:
		return o.entries[0].level, class
	case last.override == none:
		return last.level, class
	}
	return last.level, last.override
}

// open does what a class does that opens something; any other one does nothing.
func (o *opened) open(class int) {
	switch class {
	case api.BidiRLE:
		o.embed(o.odd(), none)
	case api.BidiLRE:
		o.embed(o.even(), none)
	case api.BidiRLO:
		o.embed(o.odd(), api.BidiR)
	case api.BidiLRO:
		o.embed(o.even(), api.BidiL)
	case api.BidiRLI:
		o.isolate(o.odd())
	case api.BidiLRI:
		o.isolate(o.even())
	}
}

func (o *opened) embed(level, override int) {
	if !o.put(entry{level: level, override: override}) && o.lostIsolates == 0 {
		o.lostEmbeddings++
	}
}

func (o *opened) isolate(level int) {
	if o.put(entry{level: level, override: none, isolate: true}) {
		o.isolates++
	} else {
		o.lostIsolates++
	}
}

// put answers whether there was room for the entry.
// Behind what is lost there is none even for a level that would fit: else a PDF, or a PDI, would close the wrong one.
func (o *opened) put(e entry) bool {
	if e.level > api.MaxDepth || o.lostIsolates > 0 || o.lostEmbeddings > 0 {
		return false
	}
	o.entries = append(o.entries, e)
	return true
}

// close does what a class does that closes something; any other one does nothing.
func (o *opened) close(class int) {
	switch class {
	case api.BidiPDF:
		o.closeEmbedding()
	case api.BidiPDI:
		o.closeIsolate()
	}
}

func (o *opened) closeEmbedding() {
	switch {
	case o.lostIsolates > 0:
		// It belongs to what stands in a lost isolate, where nothing is counted.
	case o.lostEmbeddings > 0:
		o.lostEmbeddings--
	case !o.last().isolate && len(o.entries) > 1:
		o.takeOff()
	}
}

func (o *opened) closeIsolate() {
	if o.lostIsolates > 0 {
		o.lostIsolates--
		return
	}
	if o.isolates == 0 {
		return
	}
	o.lostEmbeddings = 0
	for !o.last().isolate {
		o.takeOff()
	}
	o.takeOff()
	o.isolates--
}

// takeOff takes off the last entry.
func (o *opened) takeOff() {
	o.entries = o.entries[:len(o.entries)-1]
}
