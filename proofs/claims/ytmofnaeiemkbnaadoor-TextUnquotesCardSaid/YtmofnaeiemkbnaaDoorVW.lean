/- The slice at an address holds the runes of a text. -/
import Derived.Test.YtmofnaeiemkbnaaDoorTB
import Derived.BigQuiet
namespace Go.Proofs.YtmofnaeiemkbnaaDoor
open Go.RowKit Go.Shelf

/-- The slice at ao holds the runes L. -/
def View (W : World) (ao : Option Addr) (L : List (Nat × Nat × Nat)) : Prop := ∀ pre x rest, pre ++ x :: rest = L → ∃ g, ao = some ⟨g, 0, none⟩ ∧
  W.cell? ⟨g, pre.length * 3, none⟩ = some (.int .i32 x.1) ∧ W.cell? ⟨g, pre.length * 3 + 1, none⟩ = some (.int .i64 x.2.1) ∧ W.cell? ⟨g, pre.length * 3 + 2, none⟩ = some (.int .i64 x.2.2)
theorem view_of_own {w0 : World} {b : Nat} {v : Value} {L : List (Nat × Nat × Nat)} (h : w0.ownsRow b 36 3 v L.length (runeCells L)) :
    ∃ ao cap, v = .slice ao L.length cap ∧ ∀ W, Below w0.heap.size w0 W → View W ao L := by
  obtain ⟨ao, cap, hv, hc⟩ := own_view3 h
  exact ⟨ao, cap, hv, fun W hb pre x rest e => by
    obtain ⟨g, h1, _, h2, h3⟩ := hc pre x rest e
    exact ⟨g, h1, h3 W (hb.block g h2)⟩⟩

end Go.Proofs.YtmofnaeiemkbnaaDoor
