package fence

import "dibber/api"

// garden is the fences of a garden; those from count on are zero, so that gardens with the same fences are ==. It does
// not tell how many posts there are, as posts without fences make no difference to its polynomial.
type garden struct {
	count  int
	fences [api.MaxFences]api.Fence
}

func read(n int, fences []api.Fence) (garden, api.Errno) {
	if n < 1 || n > api.MaxPosts {
		return garden{}, api.ErrArg
	}
	if len(fences) > api.MaxFences {
		return garden{}, api.ErrLimit
	}
	for _, f := range fences {
		if f.A < 0 || f.A >= n || f.B < 0 || f.B >= n {
			return garden{}, api.ErrArg
		}
	}
	g := garden{count: len(fences)}
	copy(g.fences[:], fences)
	return g, api.OK
}

// takenAway returns the garden without the fence at an index.
func (g garden) takenAway(index int) garden {
	copy(g.fences[index:], g.fences[index+1:])
	g.count--
	g.fences[g.count] = api.Fence{}
	return g
}

// closed returns the garden with one post in place of both that the fence at an index joins.
func (g garden) closed(index int) garden {
	kept, gone := g.fences[index].A, g.fences[index].B
	g = g.takenAway(index)
	for i, f := range g.fences[:g.count] {
		if f.A == gone {
			g.fences[i].A = kept
		}
		if f.B == gone {
			g.fences[i].B = kept
		}
	}
	return g
}

// groups tells of each post one post of those it hangs together with, the same one for all of them.
func (g garden) groups() [api.MaxPosts]int {
	var out [api.MaxPosts]int
	for post := range out {
		out[post] = post
	}
	for _, f := range g.fences[:g.count] {
		kept, gone := out[f.A], out[f.B]
		for post, group := range out {
			if group == gone {
				out[post] = kept
			}
		}
	}
	return out
}

// joins returns how many groups fewer there are by the fences than there are posts.
func (g garden) joins() int {
	out := 0
	for post, group := range g.groups() {
		if group != post {
			out++
		}
	}
	return out
}

func (g garden) isLoop(index int) bool {
	return g.fences[index].A == g.fences[index].B
}

func (g garden) isBridge(index int) bool {
	groups := g.takenAway(index).groups()
	return groups[g.fences[index].A] != groups[g.fences[index].B]
}
