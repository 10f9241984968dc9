package base

import "forks/api"

// doers: who does an act, by its kind.
func doers() []func(all tables, a api.Act) error {
	return []func(all tables, a api.Act) error{
		api.Create: create,
		api.Insert: insert,
		api.Update: update,
		api.Delete: remove,
	}
}

func create(all tables, a api.Act) error {
	if _, there := all[a.Table]; there || len(all) >= api.MaxTables {
		return api.ErrTable
	}
	all[a.Table] = table{kinds: a.Kinds}
	return nil
}

func insert(all tables, a api.Act) error {
	t, err := tableFor(all, a)
	if err != nil {
		return err
	}
	at, there := t.find(a.Row[0])
	if there {
		return api.ErrKey
	}
	if len(t.rows) >= api.MaxRows {
		return api.ErrFull
	}
	all[a.Table] = t.with(at, at, a.Row)
	return nil
}

func update(all tables, a api.Act) error {
	t, at, err := rowFor(all, a)
	if err != nil {
		return err
	}
	all[a.Table] = t.with(at, at+1, a.Row)
	return nil
}

func remove(all tables, a api.Act) error {
	t, at, err := rowFor(all, a)
	if err != nil {
		return err
	}
	all[a.Table] = t.with(at, at+1)
	return nil
}

// tableFor tells the table that an act is for; ErrTable: there is none; ErrRow: the act's row is not of its kind.
func tableFor(all tables, a api.Act) (table, error) {
	t, there := all[a.Table]
	if !there {
		return table{}, api.ErrTable
	}
	want := t.kinds
	if a.Kind == api.Delete {
		want = t.kinds[:1]
	}
	if kindsOf(a.Row) != want {
		return table{}, api.ErrRow
	}
	return t, nil
}

// rowFor tells the table, and where in it the row with the act's key stands; ErrKey: there is none.
func rowFor(all tables, a api.Act) (table, int, error) {
	t, err := tableFor(all, a)
	if err != nil {
		return table{}, 0, err
	}
	at, there := t.find(a.Row[0])
	if !there {
		return table{}, 0, api.ErrKey
	}
	return t, at, nil
}
