package posts

import "lampbox/api"

// split returns layers of a level table. Each is as heavy as possible, so that a number becomes 0, which happens at most
// (n - 1)^2 + 1 times: the level tables with positive numbers only where the rest has them have, beside their level,
// at most (n - 1)^2 dimensions; each layer takes at least one away; and without any, they are multiples of one choice.
func (g grid) split(level int) []api.Layer {
	var layers []api.Layer
	for level > 0 {
		layer := g.heaviest()
		layers = append(layers, layer)
		g.take(layer)
		level -= layer.Weight
	}
	return layers
}

// heaviest returns a possible choice of a table with a positive level, which always has one, and its smallest number.
func (g grid) heaviest() api.Layer {
	layer := api.Layer{Weight: api.MaxEntry}
	for _, pair := range g.join().pairs() {
		layer.Choice = append(layer.Choice, pair[1])
		layer.Weight = min(layer.Weight, g.at[pair[0]][pair[1]])
	}
	return layer
}

// take subtracts the weight of a layer from the numbers of its choice.
func (g *grid) take(layer api.Layer) {
	for row, column := range layer.Choice {
		g.at[row][column] -= layer.Weight
	}
}

// isSplit reports whether these are layers of a level table.
func (g grid) isSplit(layers []api.Layer) bool {
	if len(layers) > api.MaxLayers {
		return false
	}
	for _, layer := range layers {
		if layer.Weight < 1 || !g.isChoice(layer.Choice) || !g.bears(layer) {
			return false
		}
		g.take(layer)
	}
	return g == grid{n: g.n}
}

// bears reports whether no number of a choice is smaller than the weight.
func (g grid) bears(layer api.Layer) bool {
	for row, column := range layer.Choice {
		if g.at[row][column] < layer.Weight {
			return false
		}
	}
	return true
}
