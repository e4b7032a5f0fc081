package standard

// The rules of the kinds, in the grammar of layer 28.
const (
	graphemeRules = `keep CR / LF
break [Control CR LF] /
break / [Control CR LF]
keep L / [L V LV LVT]
keep [LV V] / [V T]
keep [LVT T] / T
keep any / [Extend Joiner]
keep any / Spacing
keep Prepend / any
keep Picture Extend* Joiner / Picture
keep start (Region Region)* Region / Region
keep [^Region] (Region Region)* Region / Region
break /
`

	wordRules = `keep CR / LF
break [CR LF Newline] /
break / [CR LF Newline]
keep Space / Space
attach [Extend Joiner Format]
letter = [Letter Hebrew]
middle = [MidLetter MidBoth Single]
point = [MidNumber MidBoth Single]
keep letter / letter
keep letter / middle letter
keep letter middle / letter
keep Hebrew / Single
keep Hebrew / Double Hebrew
keep Hebrew Double / Hebrew
keep Numeric / Numeric
keep letter / Numeric
keep Numeric / letter
keep Numeric point / Numeric
keep Numeric / point Numeric
keep Katakana / Katakana
keep [Letter Hebrew Numeric Katakana Connector] / Connector
keep Connector / [Letter Hebrew Numeric Katakana]
keep start [Extend Joiner Format]* (Region Region)* Region / Region
keep [^Region Extend Joiner Format] (Region Region)* Region / Region
break /
`

	sentenceRules = `keep CR / LF
must [Separator CR LF] /
attach [Extend Format]
end1 = [Stop Point] Close*
keep Point / Numeric
keep [Upper Lower] Point / Upper
keep Point Close* Space* / [^Letter Upper Lower Separator CR LF Stop Point]* Lower
keep end1 Space* / [Continue Stop Point]
keep end1 / [Close Space Separator CR LF]
keep end1 Space* / [Space Separator CR LF]
break end1 Space* ([Separator CR LF] | ) /
keep any / any
`

	lineRules = `must Mandatory /
keep CR / LF
must [CR LF Newline] /
keep / [Mandatory CR LF Newline]
keep / [Space ZeroSpace]
break ZeroSpace Space* /
keep Joiner /
break Space / [Combining Joiner]
attach [Combining Joiner]
keep / WordJoiner
keep WordJoiner /
keep Glue /
keep [^Space After Hyphen Combining Joiner] / Glue
keep / [CloseP Exclam Infix Symbol]
keep Open Space* /
keep Quote Space* / Open
keep CloseP Space* / NonStarter
keep Both Space* / Both
break Space /
keep / Quote
keep Quote /
keep / [After Hyphen NonStarter]
keep Before /
keep / Inseparable
keep Other / Numeric
keep Numeric / Other
keep Prefix / Ideograph
keep Ideograph / Postfix
keep [Prefix Postfix] / Other
keep Other / [Prefix Postfix]
keep [CloseP Numeric] / [Prefix Postfix]
keep [Prefix Postfix] / [Open Numeric]
keep [Hyphen Infix Numeric Symbol] / Numeric
keep Other / Other
keep Infix / Other
keep [Other Numeric] / Open
keep CloseP / [Other Numeric]
keep start (Region Region)* Region / Region
keep [^Region Combining Joiner] (Region Region)* Region / Region
`
)
