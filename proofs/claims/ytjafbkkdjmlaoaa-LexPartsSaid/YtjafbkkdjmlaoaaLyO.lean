/- Layer 7 (lex): the program's Words and Join answer what the document asks, of any text and of any words. -/
import Derived.Test.YtjafbkkdjmlaoaaLyJ
namespace Go.Proofs.Ytjafbkkdjmlaoaa
open Go Go.RowKit

theorem lex_ok : LexOk := ⟨fun s w hs => words_any s w (by omega), fun A n c ws w hr _ hn hj => join_any A n c ws w hr hn hj⟩
end Go.Proofs.Ytjafbkkdjmlaoaa
