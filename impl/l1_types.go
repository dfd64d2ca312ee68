package impl

import "slices"

// ModulesMost is the greatest number of modules.
const ModulesMost = 3

// RecordsMost is the greatest number of kinds of records of a module.
const RecordsMost = 3

// FieldsMost is the greatest number of fields of a record.
const FieldsMost = 3

// AbleCopy is the ability to be copied.
const AbleCopy = 1

// AbleDrop is the ability to be dropped.
const AbleDrop = 2

// AbleStore is the ability to be in a record.
const AbleStore = 4

// AbleKeep is the ability to be kept in a vault.
const AbleKeep = 8

// AbleTop is all abilities.
const AbleTop = 15

// Record is a kind of records: its abilities, and the types of its fields.
type Record struct {
	Able   int
	Fields []string
}

// KindsBad returns ModulesMost and 0 if there are too many modules; else, module by module, the module and RecordsMost if it has too many records, or the module and its first record that is none; -1 and -1 if there is none of this.
func KindsBad(kinds [][]Record) (int, int) {
	_, m, r := readKinds(kinds)
	return m, r
}

// KindsOk reports whether kinds are ones.
func KindsOk(kinds [][]Record) bool {
	_, ok := tableOf(kinds)
	return ok
}

// TypeOk reports whether a text is a type of kinds; false if these are none.
func TypeOk(kinds [][]Record, t string) bool {
	return TypeAble(kinds, t) != -1
}

// TypePlain returns the plain type of a type, and true; the empty text and false if the text is none of kinds.
func TypePlain(kinds [][]Record, t string) (string, bool) {
	if !TypeOk(kinds, t) {
		return "", false
	}
	_, plain := splitSign(t)
	return plain, true
}

// TypeAble returns the abilities of a type of kinds; -1 if it is none.
func TypeAble(kinds [][]Record, t string) int {
	table, ok := tableOf(kinds)
	if !ok {
		return -1
	}
	return table.able(t)
}

// TypeHolds reports whether in each value of a type of kinds there is a record of a kind, as a part of it at some depth, or the value itself; false if one of both is none, or the second one is no kind.
func TypeHolds(kinds [][]Record, t string, in string) bool {
	table, ok := tableOf(kinds)
	if !ok {
		return false
	}
	if _, isKind := table[in]; !isKind {
		return false
	}
	return holdersOf(kinds, in)[t]
}

// A kindTable has each kind under its name.
type kindTable map[string]Record

// tableOf returns the table of kinds, and true; nothing and false if they are none.
func tableOf(kinds [][]Record) (kindTable, bool) {
	table, m, _ := readKinds(kinds)
	return table, m == -1
}

// readKinds returns the table of kinds, and -1 and -1; nothing and what KindsBad tells if they are none.
// A kind enters the table only behind its own check, so that no record finds itself or a later kind there.
func readKinds(kinds [][]Record) (kindTable, int, int) {
	if len(kinds) > ModulesMost {
		return nil, ModulesMost, 0
	}
	table := kindTable{}
	for m, records := range kinds {
		if len(records) > RecordsMost {
			return nil, m, RecordsMost
		}
		for r, record := range records {
			if !table.recordOk(record) {
				return nil, m, r
			}
			table[kindName(m, r)] = record
		}
	}
	return table, -1, -1
}

// recordOk reports whether a record may stand behind the kinds of the table.
func (table kindTable) recordOk(record Record) bool {
	if record.Able < 0 || record.Able > AbleTop || len(record.Fields) > FieldsMost {
		return false
	}
	need := fieldNeed(record.Able)
	for _, field := range record.Fields {
		able := table.plainAble(field)
		if able == -1 || able&need != need {
			return false
		}
	}
	return true
}

// fieldNeed returns the abilities that each field of a record with some abilities must have.
// What is kept in a vault has its fields in it as parts alone, so these need AbleStore, and not AbleKeep.
func fieldNeed(able int) int {
	need := able & (AbleCopy | AbleDrop)
	if able&(AbleStore|AbleKeep) != 0 {
		need |= AbleStore
	}
	return need
}

// able returns the abilities of a type; -1 if it is none.
func (table kindTable) able(t string) int {
	sign, plain := splitSign(t)
	able := table.plainAble(plain)
	switch {
	case able == -1:
		return -1
	case sign == "&":
		return AbleCopy | AbleDrop
	case sign == "!":
		return AbleDrop
	}
	return able
}

// plainAble returns the abilities of a plain type; -1 if it is none.
func (table kindTable) plainAble(t string) int {
	if t == "" {
		return -1
	}
	switch t[0] {
	case 'n', 'b', 'o':
		if len(t) == 1 {
			return AbleCopy | AbleDrop | AbleStore
		}
	case 'S':
		if record, ok := table[t]; ok {
			return record.Able
		}
	}
	return -1
}

// splitSign returns the sign of a type, empty for that of a plain one, and what is behind it.
func splitSign(t string) (string, string) {
	if t == "" {
		return "", ""
	}
	switch t[0] {
	case '&', '!':
		return t[:1], t[1:]
	}
	return "", t
}

// isReference reports whether a type is that of a reference.
func isReference(t string) bool {
	sign, _ := splitSign(t)
	return sign != ""
}

// kindName returns the type of a record of a module, both below 10.
func kindName(m int, r int) string {
	return string([]byte{'S', byte('0' + m), byte('0' + r)})
}

// holdersOf returns the names of kinds whose values hold a record of a kind, among good kinds.
// Fields are of earlier kinds, so one pass in order finds those at any depth.
// No reference is among them: what it leads to is not a part of it.
func holdersOf(kinds [][]Record, in string) map[string]bool {
	holders := map[string]bool{in: true}
	for m, records := range kinds {
		for r, record := range records {
			if slices.ContainsFunc(record.Fields, func(field string) bool { return holders[field] }) {
				holders[kindName(m, r)] = true
			}
		}
	}
	return holders
}
