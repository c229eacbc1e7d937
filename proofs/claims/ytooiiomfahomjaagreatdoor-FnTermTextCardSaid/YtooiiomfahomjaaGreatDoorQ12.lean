/-
  The scan of a text: the open operators (the innermost first) and the symbol at hand; a term is read from its representation. No walk.
  The names of the library's tables and variables that the reading and the writing of numbers need.
  impl.FormatInt returns the decimal numeral of its argument, for every int, where the table of powers of ten is as the library lays it.
-/
import Derived.Test.YtooiiomfahomjaaGreatDoorQ11
import Derived.Test.YtooiiomfahomjaaGreatDoorRows
import Derived.Test.YtooiiomfahomjaaGreatDoorQ1
import Derived.Shelf.Strconv.Itoa3
import Derived.Lib.AppendIntMem
import Derived.WalkKit
import Derived.WalkSpells
import Derived.WalkLawsBesides
namespace Go.Proofs.YtooiiomfahomjaaGreatDoor
open Go.RowKit

/-- The numeral of a number that a leaf may be. -/
def IsNum (v : Int) (l : List UInt8) : Prop := 0 ≤ v ∧ v ≤ 999999 ∧ Lib.itoa v = l
theorem IsNum.inj {v u : Int} {l : List UInt8} (h : IsNum v l) (k : IsNum u l) : v = u := itoa_inj (by have := h.1; omega) (by have := h.2.1; omega) (by have := k.1; omega) (by have := k.2.1; omega) (h.2.2.trans k.2.2.symm)
open Classical in
/-- The leaf that a symbol stands for. -/
noncomputable def leafT (l : List UInt8) : T :=
  if h : ∃ v, IsNum v l then .node 3 h.choose ByteArray.empty [] else if Nm 65 90 ⟨l.toArray⟩ then .node 1 0 ⟨l.toArray⟩ [] else .node 2 0 ⟨l.toArray⟩ []
theorem leafT_num {v : Int} {l : List UInt8} (h : IsNum v l) : leafT l = .node 3 v ByteArray.empty [] := by
  have hx : ∃ v, IsNum v l := ⟨v, h⟩
  unfold leafT
  rw [dif_pos hx, hx.choose_spec.inj h]
theorem leafT_var {l : List UInt8} (h : ¬ ∃ v, IsNum v l) (k : Nm 65 90 ⟨l.toArray⟩) : leafT l = .node 1 0 ⟨l.toArray⟩ [] := by
  unfold leafT; rw [dif_neg h, if_pos k]
theorem leafT_app {l : List UInt8} (h : ¬ ∃ v, IsNum v l) (k : ¬ Nm 65 90 ⟨l.toArray⟩) : leafT l = .node 2 0 ⟨l.toArray⟩ [] := by
  unfold leafT; rw [dif_neg h, if_neg k]

/-- An argument for the innermost operator. -/
def addA (t : T) : List T → List T
  | [] => []
  | .node k n s xs :: r => .node k n s (xs ++ [t]) :: r
/-- A symbol for it; an empty one is none. -/
noncomputable def addS (l : List UInt8) (st : List T) : List T := if l = [] then st else addA (leafT l) st
/-- One byte of the text; none: it is no representation. -/
noncomputable def stepR (s : List T × List UInt8) (c : UInt8) : Option (List T × List UInt8) :=
  if c = 40 then some (.node 2 0 ⟨s.2.toArray⟩ [] :: s.1, [])
  else if c = 44 ∨ c = 32 then some (addS s.2 s.1, [])
  else if c = 41 then match addS s.2 s.1 with
    | x :: y :: r => some (addA x (y :: r), [])
    | _ => none
  else some (s.1, s.2 ++ [c])
noncomputable def runR (l : List UInt8) (s : List T × List UInt8) : Option (List T × List UInt8) := l.foldlM stepR s
/-- What there is at the end. -/
noncomputable def endR (s : List T × List UInt8) : Option T := match addS s.2 s.1 with
  | [.node _ _ _ [t]] => some t
  | _ => none
abbrev baseT : T := .node 0 0 ByteArray.empty []
noncomputable def readR (l : List UInt8) : Option T := (runR l ([baseT], [])).bind endR

def Special (c : UInt8) : Prop := c = 40 ∨ c = 41 ∨ c = 44 ∨ c = 32
theorem runR_append (a b : List UInt8) (s : List T × List UInt8) : runR (a ++ b) s = (runR a s).bind (runR b) := by
  unfold runR; rw [List.foldlM_append]; rfl
theorem runR_one (c : UInt8) (s : List T × List UInt8) : runR [c] s = stepR s c := by
  unfold runR
  simp only [List.foldlM_cons, List.foldlM_nil]
  cases stepR s c <;> rfl
theorem stepR_plain {c : UInt8} (h : ¬ Special c) (s : List T × List UInt8) : stepR s c = some (s.1, s.2 ++ [c]) := by
  unfold Special at h
  unfold stepR
  rw [if_neg (fun e => h (Or.inl e)), if_neg (fun e => h (by rcases e with e | e; exact Or.inr (Or.inr (Or.inl e)); exact Or.inr (Or.inr (Or.inr e)))), if_neg (fun e => h (Or.inr (Or.inl e)))]
theorem runR_plain (l : List UInt8) (h : ∀ c ∈ l, ¬ Special c) (st : List T) (cur : List UInt8) : runR l (st, cur) = some (st, cur ++ l) := by
  induction l generalizing cur with
  | nil => simp [runR]
  | cons c r ih =>
    have e : c :: r = [c] ++ r := rfl
    rw [e, runR_append, runR_one, stepR_plain (h c (by simp))]
    show runR r (st, cur ++ [c]) = _
    rw [ih (fun x hx => h x (by simp [hx]))]
    simp

/-- The symbol at hand is passed on. -/
noncomputable def settleR (s : List T × List UInt8) : List T := addS s.2 s.1
theorem addS_nil (st : List T) : addS [] st = st := by simp [addS]
theorem addS_some {l : List UInt8} (h : l ≠ []) (st : List T) : addS l st = addA (leafT l) st := by simp [addS, h]

theorem name_bytes {lo hi : Int} {s : ByteArray} (h : Nm lo hi s) (hlo : 48 ≤ lo) (hhi : hi ≤ 122) : s.data.toList ≠ [] ∧ ∀ c ∈ s.data.toList, ¬ Special c := by
  constructor
  · intro e
    have h1 := h.1
    have : s.data.toList.length = 0 := by rw [e]; rfl
    have e2 : s.data.toList.length = s.size := by simp
    omega
  · intro c hc
    obtain ⟨i, hi, rfl⟩ := List.getElem_of_mem hc
    have e2 : s.data.toList.length = s.size := by simp
    have hb : byteAt s i = (s.data.toList[i].toNat : Int) := by rw [byteAt_lt s i (by omega)]; rfl
    have hr : 48 ≤ byteAt s i := by
      by_cases h0 : i = 0
      · subst h0; have := h.2.2.1; omega
      · have := h.2.2.2.2 i (by omega) (by omega); unfold Cont at this; omega
    rw [hb] at hr
    rintro (e | e | e | e) <;> · rw [e] at hr; simp at hr
theorem digits_of_num {v : Int} {l : List UInt8} (h : IsNum v l) : l ≠ [] ∧ ∀ c ∈ l, 48 ≤ c.toNat ∧ c.toNat ≤ 57 := by
  obtain ⟨h0, _, rfl⟩ := h
  obtain ⟨u, rfl⟩ : ∃ u : Nat, v = u := ⟨v.toNat, by omega⟩
  rw [Lib.itoa_nonneg]
  exact ⟨dec_ne_nil u, digits_dec u⟩
theorem num_not_name {lo hi : Int} {s : ByteArray} (h : Nm lo hi s) (hlo : 58 ≤ lo) : ¬ ∃ v, IsNum v s.data.toList := by
  rintro ⟨v, hv⟩
  obtain ⟨h0, hd⟩ := digits_of_num hv
  have h1 := h.1
  have h2 := h.2.2.1
  rw [byteAt_lt s 0 (by omega)] at h2
  have := hd s[0] (by show s.data[0] ∈ s.data.toList; exact Array.getElem_mem_toList _)
  have e : ((s[0].toNat : Nat) : Int) = s[0].toNat := rfl
  omega
theorem word_bytes {n : Int} (h0 : 0 ≤ n) (h1 : n ≤ 3) : Lib.itoa n ≠ [] ∧ ∀ c ∈ Lib.itoa n, ¬ Special c := by
  rw [itoa_word h0 h1]
  refine ⟨by simp, fun c hc => ?_⟩
  rw [List.mem_singleton] at hc
  subst hc
  unfold Special
  rcases (by omega : n.toNat = 0 ∨ n.toNat = 1 ∨ n.toNat = 2 ∨ n.toNat = 3) with h | h | h | h <;> · rw [h]; decide

theorem mk_data (s : ByteArray) : (⟨s.data.toList.toArray⟩ : ByteArray) = s := by simp

/-- A leaf is read. -/
theorem leaf_ok {k n : Int} {s : ByteArray} (h : NodeOk k n s 0) : textL (.node k n s []) ≠ [] ∧ (∀ c ∈ textL (.node k n s []), ¬ Special c) ∧ leafT (textL (.node k n s [])) = .node k n s [] := by
  rw [textL_node]
  rcases h with ⟨rfl, hs, rfl, _⟩ | ⟨rfl, hs, rfl⟩ | ⟨rfl, hs, h0, h1, _⟩
  · rw [if_neg (by decide), if_pos (by rfl)]
    have hb := name_bytes hs (by decide) (by decide)
    refine ⟨hb.1, hb.2, ?_⟩
    rw [leafT_var (num_not_name hs (by decide)) (by rw [mk_data]; exact hs), mk_data]
  · rw [if_neg (by decide), if_pos (by rfl)]
    have hb := name_bytes hs (by decide) (by decide)
    refine ⟨hb.1, hb.2, ?_⟩
    rw [leafT_app (num_not_name hs (by decide)) (by rw [mk_data]; exact fun h => nm_apart s hs h), mk_data]
  · rw [if_pos rfl]
    refine ⟨(word_bytes h0 h1).1, (word_bytes h0 h1).2, ?_⟩
    rw [leafT_num ⟨h0, by omega, rfl⟩]
    have : s = ByteArray.empty := by
      apply ByteArray.ext
      exact Array.eq_empty_of_size_eq_zero hs
    rw [this]

theorem run_text : ∀ t : T, OkT t → ∀ (p : T) (st : List T), ∃ s1, runR (textL t) (p :: st, []) = some s1 ∧ settleR s1 = addA t (p :: st)
  | .node k n s xs, hok, p, st => by
    obtain ⟨hn, hx⟩ := okT_kid hok
    have ih : ∀ x ∈ xs, ∀ (p : T) (st : List T), ∃ s1, runR (textL x) (p :: st, []) = some s1 ∧ settleR s1 = addA x (p :: st) := fun x hm => run_text x (hx x hm)
    by_cases h0 : xs = []
    · subst h0
      obtain ⟨h1, h2, h3⟩ := leaf_ok hn
      refine ⟨_, runR_plain _ h2 _ _, ?_⟩
      unfold settleR
      rw [List.nil_append, addS_some h1, h3]
    · have hne : xs.length ≠ 0 := fun e => h0 (List.eq_nil_of_length_eq_zero e)
      have hk : k = 2 ∧ Nm 97 122 s ∧ n = 0 := by
        rcases hn with ⟨_, _, _, h⟩ | h | ⟨_, _, _, _, h⟩
        · exact absurd h hne
        · exact h
        · exact absurd h hne
      obtain ⟨rfl, hs, rfl⟩ := hk
      have hb := name_bytes hs (by decide) (by decide)
      -- the arguments, one after the other
      have args : ∀ (ys zs : List T), ys ≠ [] → (∀ x ∈ ys, x ∈ xs) → runR (Lib.join (ys.map textL) [44, 32] ++ [41]) (.node 2 0 s zs :: p :: st, []) = some (addA (.node 2 0 s (zs ++ ys)) (p :: st), []) := by
        intro ys
        induction ys with
        | nil => intro zs h; exact absurd rfl h
        | cons y r ihr =>
          intro zs _ hm
          obtain ⟨s1, hr1, hs1⟩ := ih y (hm y (by simp)) (.node 2 0 s zs) (p :: st)
          cases r with
          | nil =>
            rw [List.map_cons, List.map_nil, Lib.join_one, runR_append, hr1]
            show runR [41] s1 = _
            rw [runR_one]
            unfold stepR
            rw [if_neg (by decide), if_neg (by decide), if_pos rfl]
            unfold settleR at hs1
            rw [hs1]
            rfl
          | cons z r =>
            have e : Lib.join ((y :: z :: r).map textL) [44, 32] ++ [41] = textL y ++ ([44] ++ ([32] ++ (Lib.join ((z :: r).map textL) [44, 32] ++ [41]))) := by
              simp [Lib.join_cons, Lib.joinTail]
            rw [e, runR_append, hr1]
            show runR _ s1 = _
            have e44 : stepR s1 44 = some (addS s1.2 s1.1, []) := by
              unfold stepR; rw [if_neg (by decide), if_pos (Or.inl rfl)]
            have e32 : ∀ q : List T, stepR (q, []) 32 = some (q, []) := fun q => by
              unfold stepR; rw [if_neg (by decide), if_pos (Or.inr rfl), addS_nil]
            unfold settleR at hs1
            rw [runR_append, runR_one, e44, hs1]
            show runR _ (_, _) = _
            rw [runR_append, runR_one, e32]
            show runR _ (_, _) = _
            rw [show addA y (T.node 2 0 s zs :: p :: st) = .node 2 0 s (zs ++ [y]) :: p :: st from rfl, ihr (zs ++ [y]) (by simp) (fun x hxm => hm x (by simp [hxm]))]
            simp
      refine ⟨(addA (.node 2 0 s xs) (p :: st), []), ?_, ?_⟩
      · rw [textL_node, if_neg (by decide), if_neg hne, List.append_assoc, List.append_assoc, runR_append, runR_plain _ hb.2]
        show runR ([40] ++ _) _ = _
        rw [runR_append, runR_one]
        have e40 : stepR (p :: st, [] ++ s.data.toList) 40 = some (.node 2 0 s [] :: p :: st, []) := by
          unfold stepR; rw [if_pos rfl]; simp
        rw [e40]
        show runR _ (_, _) = _
        rw [args xs [] h0 (fun _ h => h)]
        rfl
      · unfold settleR; rw [addS_nil]

/-- A term is read from its representation. -/
theorem read_text (t : T) (h : OkT t) : readR (textL t) = some t := by
  obtain ⟨s1, h1, h2⟩ := run_text t h baseT []
  unfold readR
  rw [h1]
  show endR s1 = _
  unfold endR
  unfold settleR at h2
  rw [h2]
  rfl
/-- Valid terms with one representation are one. -/
theorem text_inj {a b : T} (ha : OkT a) (hb : OkT b) (h : textL a = textL b) : a = b := by
  have h1 := read_text a ha
  rw [h, read_text b hb] at h1
  exact (Option.some.inj h1).symm

/-! ### how much there is -/
def wL (st : List T) : Nat := wS st + st.length
theorem leafT_w (l : List UInt8) : wT (leafT l) ≤ l.length := by
  unfold leafT
  split
  · rw [wT_node]; simp [wS]
  · split <;> · rw [wT_node]; simp [wS, ByteArray.size]
theorem addA_w (t p : T) (st : List T) : wL (addA t (p :: st)) = wL (p :: st) + wT t + 1 := by
  obtain ⟨k, n, s, xs⟩ := p
  simp only [addA, wL, wS, List.map_cons, List.sum_cons, List.length_cons]
  rw [wT_node, wT_node, wS_snoc, List.length_append]
  simp; omega
theorem addS_w (l : List UInt8) (p : T) (st : List T) : wL (addS l (p :: st)) ≤ wL (p :: st) + 2 * l.length := by
  by_cases h : l = []
  · rw [h, addS_nil]; simp
  · rw [addS_some h, addA_w]
    have := leafT_w l
    have : 1 ≤ l.length := List.length_pos_iff.2 h
    omega
theorem addS_cons (l : List UInt8) (p : T) (st : List T) : ∃ q, addS l (p :: st) = q :: st := by
  by_cases h : l = []
  · exact ⟨p, by rw [h, addS_nil]⟩
  · obtain ⟨k, n, s, xs⟩ := p
    exact ⟨_, by rw [addS_some h]; rfl⟩
end Go.Proofs.YtooiiomfahomjaaGreatDoor
namespace Go.Proofs.YtooiiomfahomjaaGreatDoor
/-- The library's table of powers of ten. -/
def powName : String := "internal/strconv.uint64pow10"
/-- The library's two errors of a number's reading. -/
def synName : String := "strconv.ErrSyntax"
def rngName : String := "strconv.ErrRange"
/-- A table of the library's, listed behind the others. -/
def bruName : String := "math/bits.deBruijn64tab"
end Go.Proofs.YtooiiomfahomjaaGreatDoor
namespace Go.Proofs.YtooiiomfahomjaaGreatDoor
open Go.RowKit

/-- The table of powers of ten holds them. -/
def PowTab (w : World) : Prop := Lib.TabIs Tryz.prog w powName .u64 Lib.pow10Tab
theorem gPow : Tryz.prog.globalNamed powName = some 0 := by kernel_rfl
theorem PowTab.below {B : Nat} {w w' : World} (h : PowTab w) (hb : Below B w w') (hB : 0 < B) : PowTab w' := var?_below hb gPow hB h

set_option maxHeartbeats 400000 in
/-- impl.FormatInt: the decimal numeral, for every int. -/
theorem iFormat_any (n : Int) (w : World) (h0 : -9223372036854775808 ≤ n) (h1 : n ≤ 9223372036854775807) (ht : PowTab w) :
    Calls Tryz.prog 34 #[.int .i64 n] w fun e w' => e = .returned (.string ⟨(Lib.itoa n).toArray⟩) ∧ Below w.heap.size w w' := by
  go_enter Tryz.func34, Tryz.ntmps34
  go_wp2_with (go_at_call 52; refine (Any.strconv_Itoa Tryz.laysM171 n h0 h1 _ ht).mono ?_; rintro e w' ⟨rfl, k, os, rfl⟩)
  go_ret
  exact ⟨rfl, Lib.below_grow _ _ (Nat.le_refl _) _ _⟩
end Go.Proofs.YtooiiomfahomjaaGreatDoor
