package desk

import (
	"maps"
	"slices"
	"strconv"
	"strings"

	"oubliette/api"
	"oubliette/event"
	"oubliette/feed"
	"oubliette/reader"
	"oubliette/stream"
	"oubliette/sum"
	"oubliette/wire"
)

const (
	anyMany    = -1
	shownBytes = 4              // of a record's mark
	nonce      = "000000000000" // of all blocks that are asked for
)

// order is what a line with a first word of its own does.
type order struct {
	size     int  // how many words must stand behind the first one; or anyMany
	numbered bool // the last one must be a number
	do       func(line) string
}

// table has the orders by their first words.
func (d *desk) table() map[string]order {
	return map[string]order{
		"new":      {size: 1, do: d.begin},
		"put":      {size: anyMany, do: d.happen},
		"del":      {size: anyMany, do: d.happen},
		"gone":     {size: anyMany, do: d.happen},
		"cells":    {do: d.cells},
		"read":     {size: 2, numbered: true, do: d.read},
		"rows":     {size: 1, do: d.rows},
		"lost":     {size: 1, do: d.lost},
		"save":     {size: 1, do: d.save},
		"load":     {size: 1, do: d.load},
		"feed":     {do: d.feed},
		"wire":     {size: 1, numbered: true, do: d.wire},
		"subjects": {do: d.subjects},
		"block":    {size: 2, numbered: true, do: d.block},
		"sum":      {size: anyMany, do: d.sum},
		"help":     {do: d.help},
	}
}

func (d *desk) begin(l line) string {
	d.anew(l.behind[0])
	return l.word
}

func (d *desk) happen(l line) string {
	e := must(event.Parse(l.word + between + strings.Join(l.behind, between)))
	r := must(d.source.Do(e))
	return tell(l.word, strconv.Itoa(r.Seq), strconv.Itoa(r.Gen), strconv.Itoa(len(r.Body)))
}

func (d *desk) cells(l line) string {
	return tell(l.word, written(d.source.Cells())...)
}

func (d *desk) read(l line) string {
	r := d.named(l.behind[0])
	for _, x := range d.source.Feed() {
		if x.Seq > l.number {
			break
		}
		if err := r.Read(x); err != nil {
			throw(err)
		}
	}
	read, _ := r.At()
	return tell(l.word, strconv.Itoa(read))
}

func (d *desk) rows(l line) string {
	return tell(l.word, written(d.named(l.behind[0]).Cells())...)
}

func (d *desk) lost(l line) string {
	return tell(l.word, strconv.Itoa(d.named(l.behind[0]).Lost()))
}

func (d *desk) save(l line) string {
	d.kept = d.named(l.behind[0]).Save()
	return tell(l.word, strconv.Itoa(d.kept.Seq))
}

func (d *desk) load(l line) string {
	d.readers[l.behind[0]] = must(reader.Load(d.source.Vault(), d.kept))
	return tell(l.word, strconv.Itoa(d.kept.Seq))
}

func (d *desk) feed(l line) string {
	var marks []string
	for _, r := range d.source.Feed() {
		marks = append(marks, sum.Hex(feed.Mark(r)[:shownBytes]))
	}
	return tell(l.word, marks...)
}

func (d *desk) wire(l line) string {
	records := d.source.Feed()
	if l.number < 1 || l.number > len(records) {
		throw(api.ErrMissing)
	}
	return tell(l.word, sum.Hex(must(wire.Write(records[l.number-1]))))
}

func (d *desk) subjects(l line) string {
	return tell(l.word, d.source.Vault().Subjects()...)
}

func (d *desk) block(l line) string {
	return tell(l.word, sum.Hex(must(stream.Block(sum.Sum(l.behind[0]), l.number, nonce))))
}

func (d *desk) sum(l line) string {
	return tell(l.word, sum.Hex(sum.Sum(strings.Join(l.behind, between))))
}

// help tells what stands in the table, so that nothing is left out there.
func (d *desk) help(line) string {
	return strings.Join(slices.Sorted(maps.Keys(d.orders)), between)
}

// named is the reader of a name; it begins here, if it is not there yet.
func (d *desk) named(name string) *reader.Reader {
	if d.readers[name] == nil {
		d.readers[name] = must(reader.New(d.source.Vault()))
	}
	return d.readers[name]
}

// written is how rows are told: as one word each.
func written(cells []api.Cell) []string {
	var out []string
	for _, c := range cells {
		value := strings.ReplaceAll(c.Value, between, "_")
		out = append(out, c.Table+"."+c.Row+":"+c.Subject+"="+value)
	}
	return out
}
