package works

import (
	"strconv"
	"strings"

	"encaustic/api"
)

func (w *Works) lay(p params) string {
	f, calibre := w.free(p.name), p.numbers[0]
	checkCalibre(calibre)
	var words []string
	for i, need := range f.needed() {
		if need == 0 {
			continue
		}
		shade := byte('a' + i)
		taken := w.take(shade, calibre, need)
		f.tiles = append(f.tiles, taken...)
		words = append(words, string(shade)+numbersOf(taken))
	}
	f.laid = true
	if len(words) == 0 {
		return "-"
	}
	return strings.Join(words, " ")
}

// numbersOf writes the numbers of batches with commas between them.
func numbersOf(taken []portion) string {
	var words []string
	for _, t := range taken {
		words = append(words, strconv.Itoa(t.no))
	}
	return strings.Join(words, ",")
}

func (w *Works) lift(p params) string {
	f := w.named(p.name)
	refuseIf(!f.laid, api.ErrState)
	tiles := f.laidTiles()
	w.putBack(f.tiles)
	f.laid, f.tiles = false, nil
	return strconv.Itoa(tiles)
}
