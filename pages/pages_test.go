package pages_test

import (
	"fmt"
	"maps"
	"math"
	"slices"
	"testing"

	"cedilla/pages"
)

func cell(c rune, v uint16) pages.Cell {
	return pages.Cell{C: c, V: v}
}

// plain holds the numbers of characters one by one.
func plain(l []pages.Cell) map[rune]uint16 {
	m := map[rune]uint16{}
	for _, x := range l {
		if x.C >= 0 && x.C <= 0x10FFFF {
			m[x.C] = x.V
		}
	}
	maps.DeleteFunc(m, func(_ rune, v uint16) bool { return v == 0 })
	return m
}

// plainBlocks tells blocks apart by the texts of what isn't 0 in them.
func plainBlocks(m map[rune]uint16) int {
	texts := map[rune]string{}
	for _, c := range slices.Sorted(maps.Keys(m)) {
		texts[c/256] += fmt.Sprintf("%x=%x ", c%256, m[c])
	}
	seen := map[string]struct{}{"": {}}
	for _, s := range texts {
		seen[s] = struct{}{}
	}
	return len(seen)
}

func plainCells(m map[rune]uint16) []pages.Cell {
	var l []pages.Cell
	for _, c := range slices.Sorted(maps.Keys(m)) {
		l = append(l, cell(c, m[c]))
	}
	return l
}

// near are the characters beside those of the cells, and those at ends.
func near(l []pages.Cell) []rune {
	asked := []rune{math.MinInt32, -0x110000, -256, -255, -1, 0, 1, 255, 256, 0xD7FF, 0xD800, 0xDFFF, 0xE000, 0xFFFF, 0x10000, 0x10FF00, 0x10FFFF, 0x110000, 0x1100FF, math.MaxInt32}
	for _, x := range l {
		for _, by := range []rune{-0x10000, -256, -1, 0, 1, 256, 0x10000} {
			asked = append(asked, x.C+by)
		}
	}
	return asked
}

// check holds all that can be asked against the plain answers.
func check(t *testing.T, l ...pages.Cell) {
	t.Helper()
	p, want := pages.New(l...), plain(l)
	for _, c := range near(l) {
		if got := p.Get(c); got != want[c] {
			t.Errorf("P13.1: of %.200s: Get(%x): %d, want %d", fmt.Sprint(l), c, got, want[c])
		}
	}
	if got := p.Cells(); !slices.Equal(got, plainCells(want)) {
		t.Errorf("P13.1: of %.200s: Cells: %.200s", fmt.Sprint(l), fmt.Sprint(got))
	}
	if got := p.Blocks(); got != plainBlocks(want) {
		t.Errorf("P13.2: of %.200s: Blocks: %d, want %d", fmt.Sprint(l), got, plainBlocks(want))
	}
}

func checkBlocks(t *testing.T, what string, want int, l ...pages.Cell) {
	t.Helper()
	check(t, l...)
	if got := pages.New(l...).Blocks(); got != want {
		t.Errorf("P13.2: %s: %d blocks, want %d", what, got, want)
	}
}

// TestNamed: what the chapter itself tells.
func TestNamed(t *testing.T) {
	checkBlocks(t, "41 and 141", 2, cell(0x41, 1), cell(0x141, 1))
	checkBlocks(t, "no cells", 1)
}

func TestNone(t *testing.T) {
	for _, l := range [][]pages.Cell{nil, {}, {cell('a', 0)}, {cell('a', 5), cell('a', 0)}, {cell(-1, 1), cell(0x110000, 1), cell(math.MinInt32, 1), cell(math.MaxInt32, 1)}} {
		checkBlocks(t, fmt.Sprint(l), 1, l...)
		if got := pages.New(l...).Cells(); got != nil {
			t.Errorf("P13.1: of %v: Cells: %v, want none", l, got)
		}
	}
}

// TestGet: ends of blocks, of numbers and of characters, surrogates too.
func TestGet(t *testing.T) {
	for _, c := range []rune{0, 1, 0x41, 0xFE, 0xFF, 0x100, 0x1FF, 0x200, 0xABCD, 0xD7FF, 0xD800, 0xDBFF, 0xDFFF, 0xE000, 0xFFFF, 0x10000, 0x10FEFF, 0x10FF00, 0x10FFFE, 0x10FFFF} {
		for _, v := range []uint16{1, 2, 0xFF, 0x100, 0x7FFF, 0x8000, 0xFFFF} {
			check(t, cell(c, v))
			if got := pages.New(cell(c, v)).Get(c); got != v {
				t.Errorf("P13.1: Get(%x): %d, want %d", c, got, v)
			}
		}
	}
}

// TestLeftOut: what is no number from 0 to 10FFFF doesn't fall on another one.
func TestLeftOut(t *testing.T) {
	for _, c := range []rune{math.MinInt32, -0x10FFFF, -0x100, -0xFF, -1, 0x110000, 0x110001, 0x1100FF, 0x110100, 0x1000000, math.MaxInt32} {
		check(t, cell(c, 7))
		check(t, cell(0xFF, 1), cell(c, 7), cell(0x10FFFF, 2))
		if p := pages.New(cell(c, 7)); p.Get(c) != 0 || p.Cells() != nil || p.Blocks() != 1 {
			t.Errorf("P13.1: of %x: %d, %v, %d", c, p.Get(c), p.Cells(), p.Blocks())
		}
	}
}

func TestLastCounts(t *testing.T) {
	check(t, cell('a', 1), cell('a', 2))
	check(t, cell('a', 2), cell('a', 1))
	check(t, cell('a', 1), cell('b', 3), cell('a', 2), cell('b', 0))
	check(t, cell('a', 1), cell('a', 0))
	check(t, cell('a', 0), cell('a', 1))
	p := pages.New(cell('a', 1), cell('b', 9), cell('a', 3), cell('a', 2))
	if p.Get('a') != 2 || p.Get('b') != 9 {
		t.Errorf("P13.1: of several of one: %d, %d", p.Get('a'), p.Get('b'))
	}
}

func TestCellsRise(t *testing.T) {
	p := pages.New(cell(0x10FFFF, 1), cell(0x300, 2), cell(-5, 9), cell(0x2FF, 3), cell(0, 4), cell(0x41, 0), cell(0xD800, 5), cell(0x301, 2))
	want := []pages.Cell{cell(0, 4), cell(0x2FF, 3), cell(0x300, 2), cell(0x301, 2), cell(0xD800, 5), cell(0x10FFFF, 1)}
	if got := p.Cells(); !slices.Equal(got, want) {
		t.Errorf("P13.1: Cells: %x, want %x", got, want)
	}
	if q := pages.New(p.Cells()...); !slices.Equal(q.Cells(), want) || q.Blocks() != p.Blocks() {
		t.Errorf("P13.1: of its own Cells: %x, %d", q.Cells(), q.Blocks())
	}
}

// TestBlocks: which blocks are alike.
func TestBlocks(t *testing.T) {
	checkBlocks(t, "one", 2, cell(0x41, 1))
	checkBlocks(t, "one block, two cells", 2, cell(0x41, 1), cell(0x42, 2))
	checkBlocks(t, "two places", 3, cell(0x41, 1), cell(0x142, 1))
	checkBlocks(t, "two numbers", 3, cell(0x41, 1), cell(0x141, 2))
	checkBlocks(t, "numbers of one low byte", 3, cell(0x41, 1), cell(0x141, 0x101))
	checkBlocks(t, "numbers exchanged", 3, cell(0x41, 1), cell(0x42, 2), cell(0x141, 2), cell(0x142, 1))
	checkBlocks(t, "one has more", 3, cell(0x41, 1), cell(0x141, 1), cell(0x1FF, 1))
	checkBlocks(t, "far from one another", 2, cell(0, 1), cell(0x10FF00, 1))
	checkBlocks(t, "of three two", 3, cell(0x10, 1), cell(0x110, 2), cell(0x210, 1))
	checkBlocks(t, "alike in the end", 2, cell(0x10, 1), cell(0x110, 2), cell(0x110, 1))
	checkBlocks(t, "noughts in the end", 2, cell(0x10, 1), cell(0x110, 2), cell(0x110, 0))
	checkBlocks(t, "last places", 2, cell(0xFF, 1), cell(0x1FF, 1))
	checkBlocks(t, "first places", 2, cell(0x100, 1), cell(0x200, 1))
	checkBlocks(t, "neighbours of two blocks", 3, cell(0xFF, 1), cell(0x100, 1))
}

// TestAllBlocks: each block there is.
func TestAllBlocks(t *testing.T) {
	const blocks = 0x1100
	var alike, unlike, halves []pages.Cell
	for i := range rune(blocks) {
		alike = append(alike, cell(i*256+7, 3))
		unlike = append(unlike, cell(i*256+i%256, uint16(i)+1))
		halves = append(halves, cell(i*256, uint16(i/2)+1))
	}
	checkBlocks(t, "all alike", 2, alike...)
	checkBlocks(t, "all unlike", blocks+1, unlike...)
	checkBlocks(t, "alike two by two", blocks/2+1, halves...)
	checkBlocks(t, "all but one", blocks, unlike[1:]...)
}

// TestAllCharacters: every character has a number.
func TestAllCharacters(t *testing.T) {
	number := func(c rune) uint16 { return uint16(c*31 + c>>8 | 1) }
	var l []pages.Cell
	for c := range rune(0x110000) {
		l = append(l, cell(c, number(c)))
	}
	p := pages.New(l...)
	for c := range rune(0x110000) {
		if p.Get(c) != number(c) {
			t.Fatalf("P13.1: Get(%x): %d, want %d", c, p.Get(c), number(c))
		}
	}
	if !slices.Equal(p.Cells(), l) {
		t.Errorf("P13.1: Cells of all characters: %d", len(p.Cells()))
	}
	for i := range l {
		l[i].V = 9
	}
	checkBlocks(t, "of one number", 2, l[:512]...)
	if got := pages.New(l...).Blocks(); got != 2 {
		t.Errorf("P13.2: all characters alike: %d blocks", got)
	}
}

// TestShort: all lists of up to four of these cells, in any turn.
func TestShort(t *testing.T) {
	some := []pages.Cell{cell(0x41, 1), cell(0x41, 2), cell(0x41, 0), cell(0x141, 1), cell(0x141, 0), cell(0xFF, 1), cell(0x100, 1), cell(-1, 1), cell(0x110041, 1), cell(0x10FF41, 2)}
	l := [][]pages.Cell{nil}
	for range 4 {
		var longer [][]pages.Cell
		for _, ahead := range l {
			check(t, ahead...)
			for _, x := range some {
				longer = append(longer, append(slices.Clip(ahead), x))
			}
		}
		l = longer
	}
}

func TestMemory(t *testing.T) {
	held := []pages.Cell{cell('b', 2), cell('a', 1), cell(-1, 3), cell('z', 9), cell('y', 9)}
	was := slices.Clone(held)
	p := pages.New(held[:3]...)
	if !slices.Equal(held, was) {
		t.Errorf("P13.1: New changed its cells: %v", held)
	}
	clear(held)
	first, second := p.Cells(), p.Cells()
	clear(first[:cap(first)])
	want := []pages.Cell{cell('a', 1), cell('b', 2)}
	if !slices.Equal(second, want) || !slices.Equal(p.Cells(), want) || p.Get('a') != 1 {
		t.Errorf("P13.1: Cells, of cells that were changed: %v, %v", second, p.Cells())
	}
	q := pages.New(cell('a', 5))
	if p.Get('a') != 1 || q.Get('a') != 5 || q.Get('b') != 0 {
		t.Errorf("P13.1: two of them share memory: %d, %d, %d", p.Get('a'), q.Get('a'), q.Get('b'))
	}
}

func FuzzNew(f *testing.F) {
	f.Add([]byte{})
	f.Add([]byte{0, 0x41, 1, 0, 0x41, 2, 1, 0x41, 1, 255, 9, 9})
	f.Fuzz(func(t *testing.T, data []byte) {
		var l []pages.Cell
		for ; len(data) >= 3; data = data[3:] {
			c := rune(data[0]%4)<<8 | rune(data[1])
			if data[0] > 250 {
				c = c<<12 - 256
			}
			l = append(l, cell(c, uint16(data[2]%3)*0x101))
		}
		check(t, l...)
	})
}
