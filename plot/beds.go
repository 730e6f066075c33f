package plot

import (
	"slices"
	"strconv"

	"dibber/api"
	"dibber/bed"
)

// plotWithBed returns the plot with a number, or refuses the command if there is none, or it has no bed.
func (s *Society) plotWithBed(no int) *api.Plot {
	plot := s.plot(no)
	ensure(plot.Size > 0, api.ErrState)
	return plot
}

// plotToSow is plotWithBed, of which a row can still be sown.
func (s *Society) plotToSow(no int) *api.Plot {
	plot := s.plotWithBed(no)
	ensure(len(plot.Rows) < plot.Size, api.ErrState)
	return plot
}

func (s *Society) giveBed(p []param) string {
	plot, size := s.plot(p[0].number), p[1].number
	ensure(isLet(*plot) && plot.Size == 0, api.ErrState)
	ensure(size >= 1 && size <= api.MaxCrops, api.ErrArg)
	plot.Size = size
	return done
}

func (s *Society) sow(p []param) string {
	plot := s.plotToSow(p[0].number)
	ensure(len(p)-1 == plot.Size, api.ErrArg)
	var row []int
	for _, crop := range p[1:] {
		row = append(row, crop.number)
	}
	rows := append(slices.Clone(plot.Rows), row)
	ensure(isStart(plot.Size, rows), api.ErrPlan)
	plot.Rows = rows
	return done
}

// isStart reports whether rows are a start, and so whether they can be finished (Hall).
func isStart(size int, rows [][]int) bool {
	_, e := bed.Row(size, rows)
	return e != api.ErrArg
}

func (s *Society) sowNext(p []param) string {
	plot := s.plotToSow(p[0].number)
	row, e := bed.Row(plot.Size, plot.Rows)
	must(e)
	plot.Rows = append(plot.Rows, row)
	return listed(row)
}

func (s *Society) clearBed(p []param) string {
	plot := s.plotWithBed(p[0].number)
	plot.Size, plot.Rows = 0, nil
	return done
}

func (s *Society) finish(p []param) string {
	plot := s.plotWithBed(p[0].number)
	ways, e := bed.Rows(plot.Size, plot.Rows)
	must(e)
	return strconv.Itoa(ways)
}
