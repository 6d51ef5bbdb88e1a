/- The cells of alternatives, rules, declarations, of a text. -/
import Derived.Test.YtngimijiafnheaaGreatRdI
set_option maxRecDepth 100000
namespace Go.Proofs.YtngimijiafnheaaGreat
open Go.Instr Go.RowKit LexT
set_option linter.unusedVariables false
def altC (a : Al) : List Cell := [.row 50 3 (wdsC 50 a.words), strC a.prec, .p (.bool a.has), strC a.action, .p (.int .i64 (IntKind.i64.wrap (a.where_ : Int))), .p (.int .i64 (a.at_ : Int))]
def ruleC (u : Ru) : List Cell := [strC u.name, .row 9 1 (u.params.map strC), .row 47 6 (u.alts.flatMap altC), .p (.int .i64 (u.at_ : Int))]
def declC (d : De) : List Cell := [strC d.kind, strC d.type, .row 9 1 (d.names.map strC), .p (.int .i64 (d.at_ : Int))]
def textC (x : Tx) : List Cell := [.row 41 4 (x.decls.flatMap declC), .row 44 4 (x.rules.flatMap ruleC)]
end Go.Proofs.YtngimijiafnheaaGreat
