/-
  impl.ComposeSubst: the Binds of the first list, with the second applied, and those of the second that are not hidden.
-/
import Derived.Test.YtidbokheeieifaaGreatDoorQ18
import Derived.Test.YtidbokheeieifaaGreatDoorQ15
namespace Go.Proofs.YtidbokheeieifaaGreatDoor
open Go.RowKit Go.Maps Go.WideMaps

/-- The composition of two lists of Binds. -/
def compB (a b : List (ByteArray × T)) : List (ByteArray × T) := a.map (fun x => (x.1, mapT (findB b) (fun s => s) x.2)) ++ b.filter (fun x => (findB a x.1).isNone)
theorem filt_snoc {a b : List (ByteArray × T)} {j : Nat} {x : ByteArray × T} (h : b[j]? = some x) : (b.take (j + 1)).filter (fun x => (findB a x.1).isNone) = if (findB a x.1).isNone then (b.take j).filter (fun x => (findB a x.1).isNone) ++ [x] else (b.take j).filter (fun x => (findB a x.1).isNone) := by
  rw [tk b j x h, List.filter_append]
  by_cases e : (findB a x.1).isNone <;> simp [e]
theorem compB_len (a b : List (ByteArray × T)) (j : Nat) : (a.map (fun x => (x.1, mapT (findB b) (fun s => s) x.2)) ++ (b.take j).filter (fun x => (findB a x.1).isNone)).length ≤ a.length + j := by
  have h1 := List.length_filter_le (fun x : ByteArray × T => (findB a x.1).isNone) (b.take j)
  rw [List.length_append, List.length_map]
  rw [List.length_take] at h1
  omega

theorem mBs_app (a b : List (ByteArray × T)) : mBs (a ++ b) = mBs a + mBs b := by simp [mBs]
theorem mBs_map (f : T → T) (M : Nat) (a : List (ByteArray × T)) (h : ∀ t, cT (f t) ≤ cT t * M) (hM : 1 ≤ M) : mBs (a.map (fun x => (x.1, f x.2))) ≤ mBs a * M := by
  induction a with
  | nil => simp [mBs]
  | cons x r ih =>
    have h1 := h x.2
    have h2 : mBs (x :: r) = (1 + 3 * cT x.2) + mBs r := by simp [mBs]
    have h3 : mBs ((x :: r).map (fun x => (x.1, f x.2))) = (1 + 3 * cT (f x.2)) + mBs (r.map (fun x => (x.1, f x.2))) := by simp [mBs]
    rw [h2, h3, Nat.add_mul, Nat.add_mul, Nat.mul_assoc]
    omega
theorem mBs_filter (q : ByteArray × T → Bool) (b : List (ByteArray × T)) : mBs (b.filter q) ≤ mBs b := by
  induction b with
  | nil => simp
  | cons x r ih =>
    have h2 : mBs (x :: r) = (1 + 3 * cT x.2) + mBs r := by simp [mBs]
    by_cases hq : q x
    · rw [List.filter_cons_of_pos hq]
      have h3 : mBs (x :: r.filter q) = (1 + 3 * cT x.2) + mBs (r.filter q) := by simp [mBs]
      omega
    · rw [List.filter_cons_of_neg hq]; omega
theorem compB_m (a b : List (ByteArray × T)) (ha : wBs a ≤ 1048576) (hb : wBs b ≤ 1048576) : mBs (compB a b) ≤ 1152921504606846976 ∧ (compB a b).length ≤ 4194304 := by
  have h1 := mBs_map (mapT (findB b) (fun s => s)) 1048577 a (fun t => cT_map (findB b) (fun s => s) 1048577 (fun s u e => by have h4 := findB_w e; have h5 := cT_le u; omega) (by omega) t) (by omega)
  have h2 := mBs_filter (fun x => (findB a x.1).isNone) b
  have h3 := mBs_le a
  have h4 := mBs_le b
  have h5 : mBs a * 1048577 ≤ 4194304 * 1048577 := Nat.mul_le_mul_right _ (by omega)
  have h6 := List.length_filter_le (fun x : ByteArray × T => (findB a x.1).isNone) b
  have h7 := wBs_len a
  have h8 := wBs_len b
  unfold compB
  rw [mBs_app, List.length_append, List.length_map]
  omega

/-- A Bind with a new term, to be appended. -/
def GotB (own : Bool) (H lo : Nat) (ua : Option Addr) (m uc : Nat) (bs : List (ByteArray × T)) (p : ByteArray) (t : T) (bB : Nat) (Wb : World) (e : Ending) (w1 : World) : Prop :=
  ∃ kc nc nmc ac mc cc ys, e = .returned (tv kc nc nmc (.slice ac mc cc)) ∧ Below Wb.heap.size Wb w1 ∧ w1.ownsRow lo 78 5 (.slice ua m uc) m ys ∧
    ∀ g3 c3 w3, w3.ownsRow lo 78 5 (.slice (some ⟨g3, 0, none⟩) (m + 1) c3) (m + 1) (ys ++ [.string p, .int .i64 kc, .int .i64 nc, .string nmc, .slice ac mc cc]) → (w1.alloc (.cells #[.string p, .int .i64 kc, .int .i64 nc, .string nmc, .slice ac mc cc] 78)).grownBy w3 (Value.slice ua m uc).ownBlock →
      ((Value.slice ua m uc).ownBlock = some g3 ∨ g3 = (w1.alloc (.cells #[.string p, .int .i64 kc, .int .i64 nc, .string nmc, .slice ac mc cc] 78)).heap.size) → GrowB own H lo (.slice (some ⟨g3, 0, none⟩) (m + 1) c3) (bs ++ [(p, t)]) w3 ∧ Below lo Wb w3
theorem gotB_own {H H1 lo m uc bB : Nat} {ua : Option Addr} {bs : List (ByteArray × T)} {p : ByteArray} {t : T} {Wb w1 : World} {e : Ending} (g : GrowB true H1 lo (.slice ua m uc) bs Wb) (hm : m = bs.length) (hlo : lo ≤ Wb.heap.size) (hp : p.size ≤ maxLen) (hH : H ≤ H1) (h : CopyR H t Wb.drew e w1) : GotB true H1 lo ua m uc bs p t bB Wb e w1 := by
  obtain ⟨kc, nc, nmc, u, xc, rfl, rfl, hsz, hoc, hb0⟩ := h
  obtain ⟨ac, cc, rfl⟩ := hoc.slice
  have hb1 : Below Wb.heap.size Wb w1 := bel_drew hb0
  obtain ⟨ys, hys, hn⟩ := g.next hm hlo hb1
  exact ⟨kc, nc, nmc, ac, _, cc, ys, rfl, hb1, hys, fun g3 c3 w3 h1 h2 h3 => hn p kc nc nmc _ xc hp hsz (kargs_own hoc hH) g3 c3 w3 h1 h2 h3⟩
theorem gotB_read {H H1 lo m uc bB : Nat} {ua : Option Addr} {bs : List (ByteArray × T)} {p : ByteArray} {t : T} {Wb w1 : World} {e : Ending} (g : GrowB false H1 lo (.slice ua m uc) bs Wb) (hm : m = bs.length) (hlo : lo ≤ Wb.heap.size) (hp : p.size ≤ maxLen) (hH : H ≤ H1) (h : LCopyT H t Wb.drew e w1) : GotB false H1 lo ua m uc bs p t bB Wb e w1 := by
  obtain ⟨kc, nc, nmc, ac, mc, cc, rfl, ht, hb0⟩ := h
  obtain ⟨_, _, _, _, xc, e1, rfl, hsz, har⟩ := ht
  cases e1
  have hb1 : Below Wb.heap.size Wb w1 := bel_drew hb0
  obtain ⟨ys, hys, hn⟩ := g.next hm hlo hb1
  exact ⟨kc, nc, nmc, ac, mc, cc, ys, rfl, hb1, hys, fun g3 c3 w3 h1 h2 h3 => hn p kc nc nmc _ xc hp hsz (kargs_read har hH) g3 c3 w3 h1 h2 h3⟩
theorem news5 (w : World) (x0 x1 x2 x3 x4 : Value) (t : TypeId) {n : Nat} (h : n = w.heap.size) : ∀ (j : Nat) (u : Value), [x0, x1, x2, x3, x4][j]? = some u → (w.alloc (.cells #[x0, x1, x2, x3, x4] t)).cell? (Addr.add ⟨n, 0, none⟩ j) = some u := by
  subst h
  intro j u hj
  have e := fun j => World.cell?_alloc_mark w #[x0, x1, x2, x3, x4] t (0, 0) j
  match j, hj with
  | 0, hj => simp at hj; subst hj; exact e 0
  | 1, hj => simp at hj; subst hj; exact e 1
  | 2, hj => simp at hj; subst hj; exact e 2
  | 3, hj => simp at hj; subst hj; exact e 3
  | 4, hj => simp at hj; subst hj; exact e 4
  | j + 5, hj => simp at hj
/-- A list of Binds, its rows the call's own. -/
def CopyBE (r : List (ByteArray × T)) (w : World) (e : Ending) (w' : World) : Prop := ∃ v H, e = .returned v ∧ BsObj w.heap.size w'.heap.size H v r w' ∧ Below w.heap.size w w'
/-- The same, read alone. -/
def ReadBE (r : List (ByteArray × T)) (w : World) (e : Ending) (w' : World) : Prop := ∃ v H, e = .returned v ∧ BsAt w' w.heap.size H v r ∧ Below w.heap.size w w'

end Go.Proofs.YtidbokheeieifaaGreatDoor
