/-
  impl.Join returns the elements with the separator between them.
-/
import Derived.Test.YtooiiomfahomjaaDoorOwn
import Derived.Test.YtooiiomfahomjaaDoorTotal
import Derived.Test.YtooiiomfahomjaaDoorLaysJ
import Derived.Shelf.Strings.OnBuilder
import Derived.Lib.Hide
namespace Go.Proofs.YtooiiomfahomjaaDoor
open Go.RowKit

def JoinEnd (ps : List ByteArray) (sep : ByteArray) (w : World) (e : Ending) (w' : World) : Prop :=
  e = .returned (.string ⟨(Lib.join (ps.map (·.data.toList)) sep.data.toList).toArray⟩) ∧ Below w.heap.size w w'

set_option maxRecDepth 100000 in
set_option maxHeartbeats 400000 in
theorem iJoin_any (B : Nat) (v : Value) (ps : List ByteArray) (sep : ByteArray) (w : World) (hl : ps.length + total ps ≤ 33554432) (hs : sep.size ≤ 1048576)
    (hown : w.ownsRow B 9 1 v ps.length (ps.map Value.string)) :
    Calls Tryd.prog 33 #[v, .string sep] w (JoinEnd ps sep w) := by
  have hjl := join_length sep.data.toList ps
  have e3 : sep.data.toList.length = sep.size := by simp
  have h4 : ps.length * sep.data.toList.length ≤ 33554432 * 1048576 := Nat.mul_le_mul (by omega) (by omega)
  have hj : (Lib.join (ps.map (·.data.toList)) sep.data.toList).length ≤ 140737488355328 := by omega
  have HJ := Lib.hid hj; clear hj hjl h4 e3
  have hc : Calls Tryd.prog 58 #[v, .string sep] w (JoinEnd ps sep w) := by
    rcases hown.2 with ⟨rfl, h0⟩ | ⟨g, cap, cur, rfl, hbg, hg, hnc, hcm, hcs, htk⟩
    · have hp : ps = [] := List.eq_nil_of_length_eq_zero h0
      subst hp
      exact (Any.strings_Join_none Tryd.lays156 Tryd.Builder_Extra_156 none 0 sep w).mono fun e w' ⟨he, hw⟩ => ⟨he, hw ▸ Below.refl _ _⟩
    · exact (Any.strings_Join Tryd.lays156 Tryd.Builder_Extra_156 g 0 cap ps sep w (fun j x hx => by
        have hj : j < ps.length := (List.getElem?_eq_some_iff.1 hx).1
        rw [Nat.zero_add, hown.cellAt j (by omega)]
        simp [hx]) (hown.lt g rfl).2 (by omega) hnc HJ.out).mono fun e w' h => h
  have HC := Lib.hid hc; clear hc
  go_enter Tryd.func33, Tryd.ntmps33
  go_wp2_with fail
  refine HC.out.mono ?_
  rintro e w1 ⟨rfl, hb⟩
  go_wp2
  go_ret
  exact ⟨rfl, hb⟩

end Go.Proofs.YtooiiomfahomjaaDoor
