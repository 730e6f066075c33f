package plot

import (
	"strconv"
	"strings"

	"dibber/api"
	"dibber/seed"
	"dibber/vine"
	"dibber/weed"
)

func (s *Society) grow(p []param) string {
	row, e := weed.Ring(p[0].number, p[1].word, p[2].number)
	must(e)
	return row
}

func (s *Society) take(p []param) string {
	seeds, e := seed.Take(p[0].number, p[1].number)
	must(e)
	return strconv.Itoa(seeds)
}

func (s *Society) vine(p []param) string {
	parts := strings.Split(p[0].word, ".")
	ensure(len(parts) <= api.MaxParts, api.ErrForm)
	shoot := p[1].word
	if shoot == nothing {
		shoot = ""
	}
	length, e := vine.Long(parts, shoot, p[2].number)
	must(e)
	return strconv.Itoa(length)
}
