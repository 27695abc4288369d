package trees

import (
	"math/big"

	"arbor/api"
)

// kirchhoff has a row for each node of g but the last one: how many edges the node has where it meets itself, and -1 where it meets one that it has an edge with. By Kirchhoff's theorem the determinant is how many trees g has.
func kirchhoff(g api.Graph) [][]*big.Int {
	rows := make([][]*big.Int, g.N)
	for v := range rows {
		rows[v] = make([]*big.Int, g.N)
		for u := range rows[v] {
			rows[v][u] = new(big.Int)
		}
	}
	one := big.NewInt(1)
	for _, e := range g.Edges {
		u, v := e[0], e[1]
		rows[u][u].Add(rows[u][u], one)
		rows[v][v].Add(rows[v][v], one)
		rows[u][v].Sub(rows[u][v], one)
		rows[v][u].Sub(rows[v][u], one)
	}
	last := g.N - 1
	rows = rows[:last]
	for v := range rows {
		rows[v] = rows[v][:last]
	}
	return rows
}

// determinant is that of kirchhoff's rows, by Bareiss's steps, in which every division comes out even; it writes over the rows.
// No rows need be changed with each other: each corner is how many trees there would be if all nodes behind it were one; if there are none even then, g has none.
func determinant(rows [][]*big.Int) *big.Int {
	corner := big.NewInt(1)
	for k := range rows {
		before := corner
		corner = rows[k][k]
		if corner.Sign() == 0 {
			return corner
		}
		for i := k + 1; i < len(rows); i++ {
			step(rows[i], rows[k], i, k, before)
		}
	}
	return corner
}

// step takes row k, the top one, away from row i below it. All rows read across as they read down, so that what stands ahead of column i is not worked out again.
func step(row, top []*big.Int, i, k int, before *big.Int) {
	product := new(big.Int)
	for j := i; j < len(row); j++ {
		row[j].Mul(row[j], top[k])
		row[j].Sub(row[j], product.Mul(top[i], top[j]))
		row[j].Quo(row[j], before)
	}
}
