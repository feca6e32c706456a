package impl

import (
	"slices"
	"strconv"
	"strings"
)

// Type is the type of numbers, or a data type with an index.
type Type struct {
	Data  int
	Index int
}

// Ctor is a constructor of a data type.
type Ctor struct {
	Name  string
	Args  []Type
	Index int
}

// Data is a data type.
type Data struct {
	Name  string
	Ctors []Ctor
}

// Special numbers of types and indices, and limits.
const (
	DataInt   = -1
	IndexSame = -1
	IndexAny  = 0
	MaxData   = 4
	MaxCtors  = 4
	MaxArgs   = 3
	MaxIndex  = 3
	MaxInt    = 9
	MaxName   = 5
)

// intName is the text of the type of numbers, which no data type can have as its name.
const intName = "I"

// index is the index of a type or of a constructor.
type index int

// between reports whether i is one of the indices from least to MaxIndex.
func (i index) between(least index) bool { return least <= i && i <= MaxIndex }

// meets reports whether there can be values of both indices.
func (i index) meets(j index) bool { return i == IndexAny || j == IndexAny || i == j }

// text returns what stands for i behind the name of a data type.
func (i index) text() string {
	switch i {
	case IndexAny:
		return ""
	case IndexSame:
		return "*"
	}
	return strconv.Itoa(int(i))
}

// readIndex returns the index with this text.
func readIndex(text string) (index, bool) {
	for i := index(IndexSame); i <= MaxIndex; i++ {
		if i.text() == text {
			return i, true
		}
	}
	return 0, false
}

// NameValid reports whether s is the name of a constructor.
func NameValid(s string) bool {
	if s == "" || len(s) > MaxName || !isUpper(s[0]) {
		return false
	}
	for i := 1; i < len(s); i++ {
		if !isLower(s[i]) {
			return false
		}
	}
	return true
}

func isUpper(b byte) bool { return 'A' <= b && b <= 'Z' }

func isLower(b byte) bool { return 'a' <= b && b <= 'z' }

// cutName cuts off the letters in front of a text, of which names are made.
func cutName(text string) (name, rest string) {
	end := 0
	for end < len(text) && (isUpper(text[end]) || isLower(text[end])) {
		end++
	}
	return text[:end], text[end:]
}

// WorldValid reports whether w is valid.
func WorldValid(w []Data) bool {
	if len(w) > MaxData {
		return false
	}
	for _, d := range w {
		if !dataValid(d, len(w)) {
			return false
		}
	}
	return namesDiffer(w)
}

// dataValid reports whether d can be one of count data types, but for names that stand twice.
func dataValid(d Data, count int) bool {
	if len(d.Name) != 1 || !isUpper(d.Name[0]) || d.Name == intName {
		return false
	}
	if len(d.Ctors) < 1 || len(d.Ctors) > MaxCtors {
		return false
	}
	for _, c := range d.Ctors {
		if !ctorValid(c, count) {
			return false
		}
	}
	return true
}

func ctorValid(c Ctor, count int) bool {
	if !NameValid(c.Name) || len(c.Args) > MaxArgs || !index(c.Index).between(IndexAny) {
		return false
	}
	for _, a := range c.Args {
		if !typeWithin(a, count, IndexSame) {
			return false
		}
	}
	return true
}

// typeWithin reports whether t is a type among count data types, where least is the least index.
func typeWithin(t Type, count int, least index) bool {
	if t.Data == DataInt {
		return t.Index == IndexAny
	}
	return 0 <= t.Data && t.Data < count && index(t.Index).between(least)
}

func namesDiffer(w []Data) bool {
	datas := map[string]bool{}
	ctors := map[string]bool{}
	for _, d := range w {
		if datas[d.Name] {
			return false
		}
		datas[d.Name] = true
		for _, c := range d.Ctors {
			if ctors[c.Name] {
				return false
			}
			ctors[c.Name] = true
		}
	}
	return true
}

// WorldSame reports whether a and b are equal.
func WorldSame(a []Data, b []Data) bool { return slices.EqualFunc(a, b, dataSame) }

func dataSame(a, b Data) bool {
	return a.Name == b.Name && slices.EqualFunc(a.Ctors, b.Ctors, ctorSame)
}

func ctorSame(a, b Ctor) bool {
	return a.Name == b.Name && a.Index == b.Index && slices.Equal(a.Args, b.Args)
}

// FormatWorld returns the text of data types.
func FormatWorld(w []Data) string {
	if !WorldValid(w) {
		return ""
	}
	datas := make([]string, len(w))
	for i, d := range w {
		ctors := make([]string, len(d.Ctors))
		for j, c := range d.Ctors {
			ctors[j] = ctorText(w, c)
		}
		datas[i] = d.Name + "=" + strings.Join(ctors, "|")
	}
	return strings.Join(datas, ";")
}

func ctorText(w []Data, c Ctor) string {
	args := make([]string, len(c.Args))
	for i, a := range c.Args {
		args[i] = typeText(w, a)
	}
	text := textWithArgs(c.Name, args)
	if c.Index > 0 {
		text += ":" + index(c.Index).text()
	}
	return text
}

// textWithArgs returns a name with the texts of arguments behind it, if there are any.
func textWithArgs(name string, args []string) string {
	if len(args) == 0 {
		return name
	}
	return name + "(" + strings.Join(args, ",") + ")"
}

func typeText(w []Data, t Type) string {
	if t.Data == DataInt {
		return intName
	}
	return w[t.Data].Name + index(t.Index).text()
}

// ParseWorld parses the text of data types.
func ParseWorld(text string) ([]Data, bool) {
	if text == "" {
		return nil, true
	}
	w, ok := readWorld(text)
	// readWorld also accepts invalid worlds, and a colon without an index, but none of these has this text.
	if !ok || FormatWorld(w) != text {
		return nil, false
	}
	return w, true
}

func readWorld(text string) ([]Data, bool) {
	parts := strings.Split(text, ";")
	places := dataPlaces(parts)
	w := make([]Data, len(parts))
	for i, part := range parts {
		name, ctors, _ := strings.Cut(part, "=")
		w[i].Name = name
		for _, c := range strings.Split(ctors, "|") {
			ctor, ok := readCtor(c, places)
			if !ok {
				return nil, false
			}
			w[i].Ctors = append(w[i].Ctors, ctor)
		}
	}
	return w, true
}

// dataPlaces returns the places of data types by their names: an argument may have a type that comes later.
func dataPlaces(parts []string) map[string]int {
	places := map[string]int{}
	for i, part := range parts {
		name, _, _ := strings.Cut(part, "=")
		places[name] = i
	}
	return places
}

func readCtor(text string, places map[string]int) (Ctor, bool) {
	text, after, _ := strings.Cut(text, ":")
	i, ok := readIndex(after)
	if !ok {
		return Ctor{}, false
	}
	name, list, hasArgs := strings.Cut(text, "(")
	c := Ctor{Name: name, Index: int(i)}
	if !hasArgs {
		return c, true
	}
	list, closed := strings.CutSuffix(list, ")")
	if !closed {
		return Ctor{}, false
	}
	for _, arg := range strings.Split(list, ",") {
		t, ok := readType(arg, places)
		if !ok {
			return Ctor{}, false
		}
		c.Args = append(c.Args, t)
	}
	return c, true
}

func readType(text string, places map[string]int) (Type, bool) {
	if text == "" {
		return Type{}, false
	}
	if text == intName {
		return Type{Data: DataInt}, true
	}
	place, known := places[text[:1]]
	i, ok := readIndex(text[1:])
	if !known || !ok {
		return Type{}, false
	}
	return Type{Data: place, Index: int(i)}, true
}

// TypeValid reports whether t is a type.
func TypeValid(w []Data, t Type) bool {
	return WorldValid(w) && typeWithin(t, len(w), IndexAny)
}

// FormatType returns the text of a type.
func FormatType(w []Data, t Type) string {
	if !TypeValid(w, t) {
		return ""
	}
	return typeText(w, t)
}

// CtorsOf returns the constructors that can make values of a type.
func CtorsOf(w []Data, t Type) []int {
	if !TypeValid(w, t) {
		return nil
	}
	return ctorsOf(w, t)
}

// ctorsOf is CtorsOf for a valid type.
func ctorsOf(w []Data, t Type) []int {
	if t.Data == DataInt {
		return nil
	}
	var places []int
	for i, c := range w[t.Data].Ctors {
		if index(c.Index).meets(index(t.Index)) {
			places = append(places, i)
		}
	}
	return places
}

// ArgTypes returns the types of the arguments of a constructor for a type.
func ArgTypes(w []Data, t Type, ctor int) []Type {
	if !slices.Contains(CtorsOf(w, t), ctor) {
		return nil
	}
	return argTypes(w, t, ctor)
}

// argTypes is ArgTypes for one of the constructors of a valid type.
func argTypes(w []Data, t Type, ctor int) []Type {
	c := w[t.Data].Ctors[ctor]
	made := c.Index
	if made == IndexAny {
		made = t.Index
	}
	args := make([]Type, len(c.Args))
	for i, a := range c.Args {
		if a.Index == IndexSame {
			a.Index = made
		}
		args[i] = a
	}
	return args
}

// Inhabited reports whether a type has values.
func Inhabited(w []Data, t Type) bool {
	_, ok := LeastDepth(w, t)
	return ok
}

// LeastDepth returns the least depth of a value of a type.
func LeastDepth(w []Data, t Type) (int, bool) {
	if !TypeValid(w, t) {
		return 0, false
	}
	depth, ok := leastDepths(w)[t]
	return depth, ok
}

// leastDepths returns the least depths of all types of a valid world that have values.
func leastDepths(w []Data) map[Type]int {
	depths := map[Type]int{}
	open := typesOf(w)
	for depth := 1; ; depth++ {
		made, rest := splitMade(w, open, depths)
		// A value of a greater depth would need an argument of this depth.
		if len(made) == 0 {
			return depths
		}
		for _, t := range made {
			depths[t] = depth
		}
		open = rest
	}
}

// splitMade returns which of the types have a value with arguments of known types, and which do not.
func splitMade(w []Data, open []Type, depths map[Type]int) (made, rest []Type) {
	for _, t := range open {
		if hasMade(w, t, depths) {
			made = append(made, t)
		} else {
			rest = append(rest, t)
		}
	}
	return made, rest
}

func hasMade(w []Data, t Type, depths map[Type]int) bool {
	if t.Data == DataInt {
		return true
	}
	isMade := func(c int) bool { return depthAbove(argTypes(w, t, c), depths) > 0 }
	return slices.ContainsFunc(ctorsOf(w, t), isMade)
}

// depthAbove returns the least depth of a value with arguments of these types, or 0 if one of them has none.
func depthAbove(args []Type, depths map[Type]int) int {
	greatest := 0
	for _, a := range args {
		if depths[a] == 0 {
			return 0
		}
		greatest = max(greatest, depths[a])
	}
	return greatest + 1
}

// typesOf returns the types of a valid world: that of numbers, and then each data type with each index.
func typesOf(w []Data) []Type {
	types := []Type{{Data: DataInt}}
	for d := range w {
		for i := IndexAny; i <= MaxIndex; i++ {
			types = append(types, Type{Data: d, Index: i})
		}
	}
	return types
}
