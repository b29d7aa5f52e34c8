package desk

// arg is what a word behind the first one of a command must be.
type arg uint8

const (
	anyWord arg = iota
	aCount
	aRole
	newName // the name of what the command makes: always ahead of all others
	aLexicon
	aSystem
	aModel
	aTermbase
	theRules
	theChecks
	anOffice
)

// isThing reports whether the word must be the name of a thing that is there.
func (a arg) isThing() bool { return a >= aLexicon }

// body is what a command must have behind its first line.
type body uint8

const (
	noBody body = iota
	oneLine
	anyLines
)

// command says what stands behind the first word of a command, and what does it.
type command struct {
	args []arg
	more bool // any words may stand behind the args
	body body
	do   func(*task) string
}

// commands are what the desk can do, by their first words.
func commands() map[string]command {
	inCell := []arg{anOffice, anyWord, anyWord, aCount}
	return map[string]command{
		"lexicon": {args: []arg{newName}, body: anyLines, do: (*task).makeLexicon},
		"system":  {args: []arg{newName, aLexicon, aLexicon}, body: anyLines, do: (*task).makeSystem},
		"model":   {args: []arg{newName}, body: anyLines, do: (*task).makeModel},
		"terms":   {args: []arg{newName}, body: anyLines, do: (*task).makeTermbase},
		"rules":   {args: []arg{newName}, body: anyLines, do: (*task).makeRules},
		"checks":  {args: []arg{newName}, body: anyLines, do: (*task).makeChecks},
		"office":  {args: []arg{newName, theRules}, body: anyLines, do: (*task).makeOffice},
		"copy":    {args: []arg{newName, anOffice}, do: (*task).copyOffice},
		"merge":   {args: []arg{newName, anOffice, anOffice, anOffice}, do: (*task).merge},

		"analyze":   {args: []arg{aLexicon, anyWord}, do: (*task).analyze},
		"translate": {args: []arg{aSystem, aModel}, more: true, do: (*task).translate},
		"test":      {args: []arg{theChecks, anOffice, anyWord}, do: (*task).test},
		"issues":    {args: []arg{aTermbase, anOffice, anyWord, anyWord, anyWord, aLexicon, aLexicon}, do: (*task).issues},
		"show":      {args: []arg{anOffice, anyWord}, do: (*task).show},
		"verify":    {do: (*task).verify},

		"lang":    {args: []arg{anOffice, anyWord}, do: (*task).lang},
		"person":  {args: []arg{anOffice, anyWord, anyWord, aRole}, do: (*task).person},
		"lock":    {args: inCell, do: (*task).lock},
		"free":    {args: inCell, do: (*task).free},
		"approve": {args: inCell, do: (*task).approve},
		"reject":  {args: inCell, do: (*task).reject},
		"reopen":  {args: inCell, do: (*task).reopen},
		"pick":    {args: append(inCell[:4:4], aCount), do: (*task).pick},
		"edit":    {args: inCell, body: oneLine, do: (*task).edit},
		"source":  {args: []arg{anOffice}, body: anyLines, do: (*task).source},
		"draft":   {args: append(inCell[:4:4], aSystem, aModel), do: (*task).draft},
	}
}
