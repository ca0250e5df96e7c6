package join

import "bailey/api"

// source tells the facts that an atom matches, of those that a literal may become.
type source func(api.Atom) []api.Fact

// literal is one that is not Not.
type literal struct {
	part
	from   source
	tables map[set]*table // by the variables that are known
}

// table has the choices by which a literal becomes a fact, by what they choose for the variables that are known.
type table struct {
	rows  map[choice][]choice
	whole bool
}

// become: from now on a literal may become the facts of a source.
func (l *literal) become(from source) {
	l.from, l.tables = from, map[set]*table{}
}

// few is how often a source is asked for just what is wanted. That can cost next to nothing, or as much as to read all of it; so then all is read, once.
const few = 8

// rows: the choices for a literal's variables by which it becomes a fact, and which are the same as one that is handed in for those that are known.
func (l *literal) rows(known set, by choice) []choice {
	known &= l.vars
	t, key := l.table(known), by.only(known)
	if _, is := t.rows[key]; is || t.whole {
		return t.rows[key]
	}
	if len(t.rows) < few {
		t.rows[key] = l.read(by.put(l.atom, known))
		return t.rows[key]
	}
	clear(t.rows)
	for _, row := range l.read(l.atom) {
		t.rows[row.only(known)] = append(t.rows[row.only(known)], row)
	}
	t.whole = true
	return t.rows[key]
}

// table: the one of some variables that are known.
func (l *literal) table(known set) *table {
	t, is := l.tables[known]
	if !is {
		t = &table{rows: map[choice][]choice{}}
		l.tables[known] = t
	}
	return t
}

// read: the choices by which a literal becomes those facts of its source that an atom matches.
func (l *literal) read(a api.Atom) (rows []choice) {
	for _, f := range l.from(a) {
		var row choice
		for i, t := range l.atom.Args {
			if t.Var {
				row[t.N] = f.Args[i]
			}
		}
		rows = append(rows, row)
	}
	return rows
}
