package bin

import "temple/api"

// most is how many symbols a conjunct keeps.
const most = 2

// queue is the rests of conjuncts that become new names, in the row in which
// these are made: row i becomes the name first + i.
type queue struct {
	first int
	rows  [][]api.Symbol
}

// cutRules is g's rules, each with its conjuncts cut.
func (q *queue) cutRules(rules []api.Rule) []api.Rule {
	var out []api.Rule
	for _, r := range rules {
		cut := api.Rule{Head: r.Head}
		for _, c := range r.Conj {
			next := q.first + len(q.rows)
			q.add(c.Seq)
			cut.Conj = append(cut.Conj, api.Conjunct{Neg: c.Neg, Seq: pair(c.Seq, next)})
		}
		out = append(out, cut)
	}
	return out
}

// add puts the rests of a row at the queue's end. All of them stand there at
// once, so that the rest within another one is always the next one.
func (q *queue) add(row []api.Symbol) {
	for len(row) > most {
		row = row[1:]
		q.rows = append(q.rows, row)
	}
}

// rules is the one rule of each rest's name.
func (q *queue) rules() []api.Rule {
	var out []api.Rule
	for i, row := range q.rows {
		head := q.first + i
		out = append(out, api.Rule{Head: head, Conj: []api.Conjunct{{Seq: pair(row, head+1)}}})
	}
	return out
}

// pair is a row's symbols, or, if these are too many, its first one and the
// name that stands for all others.
func pair(row []api.Symbol, rest int) []api.Symbol {
	if len(row) <= most {
		return append([]api.Symbol(nil), row...)
	}
	return []api.Symbol{row[0], {Name: rest}}
}
