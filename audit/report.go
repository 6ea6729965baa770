package audit

import (
	"strconv"
	"strings"

	"bollard/api"
	"bollard/bits"
	"bollard/gauge"
	"bollard/geom"
	"bollard/scan"
)

const firstInode = api.Root + 1 // those ahead of it are never given

// row is a group's bits of its blocks of data alone, and how many they are.
func (c *contents) row(group int) ([]byte, int) {
	first, many, _ := geom.Data(c.geom, group)
	_, bit, _ := geom.Group(c.geom, first)
	all := c.groups[group].Blocks[:]
	row := make([]byte, len(all))
	for i := range many {
		row, _ = bits.With(row, i, bits.Has(all, bit+i))
	}
	return row, many
}

func (c *contents) hasInode(ino int) bool {
	group, bit, _ := geom.Owner(c.geom, ino)
	return bits.Has(c.groups[group].Inodes[:], bit)
}

// inodes is how many can be given.
func (c *contents) inodes() int {
	return geom.Inodes(c.geom) - firstInode
}

func (c *contents) totals() Totals {
	found, _ := scan.Leaks(c.image)
	t := Totals{LostBlocks: len(found.Blocks), LostInodes: len(found.Inodes)}
	for group := range c.groups {
		t.Blocks += bits.Count(c.row(group))
	}
	for i := range c.inodes() {
		if c.hasInode(firstInode + i) {
			t.Inodes++
		}
	}
	t.FreeBlocks = geom.Room(c.geom) - t.Blocks
	t.FreeInodes = c.inodes() - t.Inodes
	return t
}

// fill is how full a group is.
func (c *contents) fill(group int) uint64 {
	row, many := c.row(group)
	return gauge.Fill(bits.Count(row, many), many)
}

func (c *contents) fills() []uint64 {
	var out []uint64
	for group := range c.groups {
		out = append(out, c.fill(group))
	}
	return out
}

func (c *contents) report() []string {
	t := c.totals()
	lines := []string{
		line("blocks", strconv.Itoa(t.Blocks), "of", strconv.Itoa(geom.Room(c.geom))),
		line("inodes", strconv.Itoa(t.Inodes), "of", strconv.Itoa(c.inodes())),
		line("lost", strconv.Itoa(t.LostBlocks), strconv.Itoa(t.LostInodes)),
	}
	for group := range c.groups {
		broken := gauge.Broken(bits.Runs(c.row(group)))
		lines = append(lines, line("group", strconv.Itoa(group), gauge.Print(c.fill(group)), gauge.Print(broken)))
	}
	return lines
}

func line(words ...string) string {
	return strings.Join(words, " ")
}
