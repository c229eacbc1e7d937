/-
  Small facts on one byte as a string and on strings put together. No walk.
-/
import Derived.Test.YtooiiomfahomjaaRows
import Derived.WalkKit
import Derived.WalkSpells
import Derived.WalkLawsBesides
import Derived.Laws.IdiomStrings
import Derived.Lib.Hide
namespace Go.Proofs.Ytooiiomfahomjaa
open Go.RowKit

theorem ret_str {a b : List UInt8} (h : a = b) : Ending.returned (.string ⟨a.toArray⟩) = .returned (.string ⟨b.toArray⟩) := by rw [h]

/-- 'string([]byte{c})'. -/
theorem conv_one (W : World) (k : Nat) (c : Int) (hk : k < 256) (hc : c = (k : Int)) :
    (convert 22 9 (.slice (some ⟨W.heap.size, 0, none⟩) 1 1)).run Try.prog (W.alloc (.cells #[.int .u8 c] 5)) = .ok (.string ⟨#[UInt8.ofNat k]⟩) (W.alloc (.cells #[.int .u8 c] 5)) := by
  have h := run_convert_bytes_back (P := Try.prog) (W.alloc (.cells #[.int .u8 c] 5)) 22 9 5 ⟨W.heap.size, 0, none⟩ 1 [UInt8.ofNat k] Try.underlying22 Try.underlying5 Try.underlying9 (fun j hj => by
    have hj0 : j = 0 := by simpa using hj
    subst hj0
    have := World.cell?_alloc_mark W #[.int .u8 c] 5 (0, 0) 0
    show (W.alloc (.cells #[.int .u8 c] 5)).cell? ⟨W.heap.size, 0, none⟩ = _
    rw [this, hc]
    simp
    omega)
  exact h

theorem cons_str (x : UInt8) (out : List UInt8) : (⟨#[x]⟩ : ByteArray) ++ ⟨out.toArray⟩ = ⟨(x :: out).toArray⟩ := by
  apply ByteArray.ext
  simp [ByteArray.data_append]
theorem digit_val (k : Nat) : (48 : UInt8) + UInt8.ofNat k = UInt8.ofNat (48 + k) := by
  rw [UInt8.ofNat_add]; rfl
end Go.Proofs.Ytooiiomfahomjaa
