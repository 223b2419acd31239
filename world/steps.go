package world

import "coffer/api"

// action is what a step of one kind does, and what it tells.
type action func(w *World, s Step) Told

// actionOf is what the steps of a kind do; nil, if it is none.
func actionOf(kind int) action {
	actions := [...]action{
		Make:        (*World).makeBucket,
		Drop:        (*World).dropBucket,
		Put:         (*World).put,
		Delete:      (*World).deleteKey,
		Remove:      (*World).removeVersion,
		Get:         (*World).get,
		GetVersion:  (*World).getVersion,
		List:        (*World).list,
		Versions:    (*World).versions,
		Names:       (*World).names,
		Export:      (*World).exportWhole,
		Since:       (*World).exportSince,
		Import:      (*World).importText,
		Apply:       (*World).applyText,
		ImportShelf: (*World).importShelved,
		ApplyShelf:  (*World).applyShelved,
		Fall:        (*World).fall,
		Crash:       (*World).crash,
	}
	if kind < 0 || kind >= len(actions) {
		return nil
	}
	return actions[kind]
}

func (w *World) makeBucket(s Step) Told { return Told{Err: w.store.Make(s.Bucket)} }

func (w *World) dropBucket(s Step) Told { return Told{Err: w.store.Drop(s.Bucket)} }

func (w *World) put(s Step) Told {
	seq, err := w.store.Put(s.Bucket, s.Key, s.Data, s.Meta)
	return Told{Seq: seq, Err: err}
}

func (w *World) deleteKey(s Step) Told {
	seq, err := w.store.Delete(s.Bucket, s.Key)
	return Told{Seq: seq, Err: err}
}

func (w *World) removeVersion(s Step) Told {
	return Told{Err: w.store.DeleteVersion(s.Bucket, s.Key, s.Seq)}
}

func (w *World) get(s Step) Told {
	v, err := w.store.Get(s.Bucket, s.Key)
	return Told{Version: v, Err: err}
}

func (w *World) getVersion(s Step) Told {
	v, err := w.store.GetVersion(s.Bucket, s.Key, s.Seq)
	return Told{Version: v, Err: err}
}

func (w *World) list(s Step) Told {
	rows, err := w.store.List(s.Bucket, s.Key, s.N)
	return Told{Rows: rows, Err: err}
}

func (w *World) versions(s Step) Told {
	rows, err := w.store.Versions(s.Bucket, s.Key, s.N)
	return Told{Rows: rows, Err: err}
}

func (w *World) names(Step) Told { return Told{Names: w.store.Names()} }

func (w *World) exportWhole(s Step) Told { return w.shelve(w.store.Export(s.Bucket)) }

func (w *World) exportSince(s Step) Told { return w.shelve(w.store.ExportSince(s.Bucket, s.Seq)) }

func (w *World) importText(s Step) Told { return Told{Err: w.store.Import(s.Bucket, s.Data)} }

func (w *World) applyText(s Step) Told { return Told{Err: w.store.Apply(s.Bucket, s.Data)} }

func (w *World) importShelved(s Step) Told { return w.fromShelf((*World).importText, s) }

func (w *World) applyShelved(s Step) Told { return w.fromShelf((*World).applyText, s) }

func (w *World) fall(s Step) Told {
	w.d.Fall(s.N)
	return Told{}
}

// crash takes the power and gives it back, and opens what is then on the disk.
func (w *World) crash(s Step) Told {
	w.d.Crash(s.Kept)
	w.d.On()
	w.d.Fall(s.N)
	return Told{Err: w.open()}
}

// shelve tells an archive, which goes onto the shelf. The power can't have gone
// in making it: an export only reads.
func (w *World) shelve(text string, err api.Errno) Told {
	if err != api.OK {
		return Told{Err: err}
	}
	w.shelf = append(w.shelf, text)
	return Told{Bytes: text}
}

// fromShelf does a step with an archive of the shelf in the place of its data.
func (w *World) fromShelf(do action, s Step) Told {
	if s.N < 0 || s.N >= len(w.shelf) {
		return Told{Err: api.ErrArg}
	}
	s.Data = w.shelf[s.N]
	return do(w, s)
}
