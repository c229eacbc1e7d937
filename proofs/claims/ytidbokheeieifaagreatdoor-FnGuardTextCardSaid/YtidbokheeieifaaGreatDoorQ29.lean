/-
  Plain facts on reading decimal numerals: the value of a row of digits; that the library's reading of an integer's numeral gives the integer. No program.
  The scan of a text: the open operators (the innermost first) and the symbol at hand; a term is read from its representation. No walk.
  impl.integerOf: the integer within the limits whose numeral s is, or a panic; under what the library's variables hold.
  impl.ParseNumber: the number whose numeral the string is, and true; else 0 and false: at every string.
  impl.leafOf: what a symbol stands for; impl.addSymbol: it becomes an argument of the topmost term of the stack, unless it is empty.
  A stack of terms under the steps of a scan: its first world, an iterator's step, a push, a pop, the end. No walk.
  The scan of a text from place to place: what a rune's bytes are; how far the scan came. No walk.
-/
import Derived.Test.YtidbokheeieifaaGreatDoorQ11
import Derived.Test.YtidbokheeieifaaGreatDoorQ22
import Derived.Test.YtidbokheeieifaaGreatDoorQ23
import Derived.Test.YtidbokheeieifaaGreatDoorQ4
import Derived.Test.YtidbokheeieifaaGreatDoorQ28
import Derived.Lib.AtoiAllCases
import Derived.Shelf.Strconv.ErrVarAll
import Derived.Lib.AtoiErrMem
import Derived.Lib.AtoiAllMem
import Derived.Defers
import Derived.Recover
import Derived.Laws.Pointers
import Derived.WalkSmall
import Derived.Lib.DecodeN
import Derived.Laws.RangeAny
namespace Go.Proofs.YtidbokheeieifaaGreatDoor
open Go Go.Lib

/-- The number that a row of digits spells, behind acc. -/
def dval : Nat → List UInt8 → Nat
  | acc, [] => acc
  | acc, c :: r => dval (acc * 10 + (c.toNat - 48)) r

theorem dval_append (l r : List UInt8) : ∀ acc, dval acc (l ++ r) = dval (dval acc l) r := by
  induction l with
  | nil => intro acc; rfl
  | cons c l ih => intro acc; exact ih _

theorem dval_ge : ∀ (l : List UInt8) (acc : Nat), acc ≤ dval acc l
  | [], _ => Nat.le_refl _
  | c :: r, acc => Nat.le_trans (by omega) (dval_ge r (acc * 10 + (c.toNat - 48)))

/-- Digits alone. -/
def Digits (l : List UInt8) : Prop := ∀ c ∈ l, 48 ≤ c.toNat ∧ c.toNat ≤ 57

theorem digit_toNat {k : Nat} (h : k < 10) : (UInt8.ofNat (48 + k)).toNat = 48 + k := by
  rw [UInt8.toNat_ofNat']; omega

theorem digits_dec (u : Nat) : Digits (decDigits u) := by
  induction u using Nat.strongRecOn with
  | _ u ih =>
    intro c hc
    rw [decDigits] at hc
    split at hc
    · have : c = UInt8.ofNat (48 + u) := by simpa using hc
      subst this; rw [digit_toNat (by omega)]; omega
    · rename_i h
      rcases List.mem_append.1 hc with h1 | h1
      · exact ih (u / 10) (by omega) c h1
      · have : c = UInt8.ofNat (48 + u % 10) := by simpa using h1
        subst this; rw [digit_toNat (by omega)]; omega

theorem dval_dec (u : Nat) : dval 0 (decDigits u) = u := by
  induction u using Nat.strongRecOn with
  | _ u ih =>
    rw [decDigits]
    split
    · show 0 * 10 + ((UInt8.ofNat (48 + u)).toNat - 48) = u
      rw [digit_toNat (by omega)]; omega
    · rename_i h
      rw [dval_append, ih (u / 10) (by omega)]
      show u / 10 * 10 + ((UInt8.ofNat (48 + u % 10)).toNat - 48) = u
      rw [digit_toNat (by omega)]; omega

theorem dec_ne_nil (u : Nat) : decDigits u ≠ [] := by
  rw [decDigits]; split <;> simp

theorem parse_digits : ∀ (l : List UInt8) (acc : Nat), Digits l → dval acc l < 18446744073709551616 → parseUint10 acc l = .ok (dval acc l)
  | [], _, _, _ => rfl
  | c :: r, acc, hd, hv => by
    have hc := hd c (List.mem_cons_self ..)
    have hg : acc * 10 + (c.toNat - 48) ≤ dval acc (c :: r) := dval_ge r _
    unfold parseUint10
    rw [if_pos hc, if_neg (by omega), if_neg (by omega)]
    exact parse_digits r _ (fun x hx => hd x (List.mem_cons_of_mem _ hx)) hv

theorem parseMag_dec (u : Nat) (h : u < 18446744073709551616) : parseMag (decDigits u) = .ok u := by
  unfold parseMag
  rw [if_neg (dec_ne_nil u), parse_digits _ 0 (digits_dec u) (by rw [dval_dec]; exact h), dval_dec]

/-- The library reads an int's numeral as that int. -/
theorem atoi_itoa (v : Int) (h0 : -9223372036854775808 ≤ v) (h1 : v ≤ 9223372036854775807) : atoiAll (itoa v) = .ok v := by
  by_cases hn : v < 0
  · have e : itoa v = 45 :: decDigits v.natAbs := by unfold itoa; rw [if_pos hn]
    rw [e, atoiAll_minus, parseMag_dec _ (by omega)]
    unfold signed
    simp only []
    rw [if_neg (by omega)]
    congr 1; omega
  · have e : itoa v = decDigits v.toNat := by unfold itoa; rw [if_neg hn]
    rw [e]
    obtain ⟨c, r, hcr⟩ : ∃ c r, decDigits v.toNat = c :: r := by
      cases hd : decDigits v.toNat with
      | nil => exact absurd hd (dec_ne_nil _)
      | cons c r => exact ⟨c, r, rfl⟩
    have hc := digits_dec v.toNat c (by rw [hcr]; exact List.mem_cons_self ..)
    have hp := parseMag_dec v.toNat (by omega)
    rw [hcr] at hp ⊢
    rw [atoiAll_plain c r (by omega) (by omega), hp]
    unfold signless
    simp only []
    rw [if_neg (by omega)]
    congr 1; omega

theorem itoa_inj {v u : Int} (h0 : -9223372036854775808 ≤ v) (h1 : v ≤ 9223372036854775807) (g0 : -9223372036854775808 ≤ u) (g1 : u ≤ 9223372036854775807) (h : itoa v = itoa u) : v = u := by
  have a := atoi_itoa v h0 h1
  rw [h, atoi_itoa u g0 g1] at a
  injection a with a
  exact a.symm

/-- (v, b) is what the reading of l within lo .. hi answers. -/
def Good (lo hi : Int) (l : List UInt8) (v : Int) (b : Bool) : Prop :=
  (b = true → lo ≤ v ∧ v ≤ hi ∧ itoa v = l) ∧ (b = false → v = 0 ∧ ∀ u, lo ≤ u → u ≤ hi → itoa u ≠ l)

theorem good_unique {lo hi : Int} {l : List UInt8} {v u : Int} {b c : Bool} (hlo : -9223372036854775808 ≤ lo) (hhi : hi ≤ 9223372036854775807) (h : Good lo hi l v b) (g : Good lo hi l u c) : v = u ∧ b = c := by
  cases b <;> cases c
  · exact ⟨by rw [(h.2 rfl).1, (g.2 rfl).1], rfl⟩
  · have := g.1 rfl; exact absurd this.2.2 ((h.2 rfl).2 u this.1 this.2.1)
  · have := h.1 rfl; exact absurd this.2.2 ((g.2 rfl).2 v this.1 this.2.1)
  · have h1 := h.1 rfl; have g1 := g.1 rfl
    exact ⟨itoa_inj (by omega) (by omega) (by omega) (by omega) (h1.2.2.trans g1.2.2.symm), rfl⟩
end Go.Proofs.YtidbokheeieifaaGreatDoor
namespace Go.Proofs.YtidbokheeieifaaGreatDoor
open Go.RowKit

/-- The numeral of a number that a leaf may be. -/
def IsNum (v : Int) (l : List UInt8) : Prop := 0 ≤ v ∧ v ≤ 999999 ∧ Lib.itoa v = l
theorem IsNum.inj {v u : Int} {l : List UInt8} (h : IsNum v l) (k : IsNum u l) : v = u := itoa_inj (by have := h.1; omega) (by have := h.2.1; omega) (by have := k.1; omega) (by have := k.2.1; omega) (h.2.2.trans k.2.2.symm)
open Classical in
/-- The leaf that a symbol stands for. -/
noncomputable def leafT (l : List UInt8) : T :=
  if h : ∃ v, IsNum v l then .node 3 h.choose ByteArray.empty [] else if Nm 65 90 ⟨l.toArray⟩ then .node 1 0 ⟨l.toArray⟩ [] else .node 2 0 ⟨l.toArray⟩ []
theorem leafT_num {v : Int} {l : List UInt8} (h : IsNum v l) : leafT l = .node 3 v ByteArray.empty [] := by
  have hx : ∃ v, IsNum v l := ⟨v, h⟩
  unfold leafT
  rw [dif_pos hx, hx.choose_spec.inj h]
theorem leafT_var {l : List UInt8} (h : ¬ ∃ v, IsNum v l) (k : Nm 65 90 ⟨l.toArray⟩) : leafT l = .node 1 0 ⟨l.toArray⟩ [] := by
  unfold leafT; rw [dif_neg h, if_pos k]
theorem leafT_app {l : List UInt8} (h : ¬ ∃ v, IsNum v l) (k : ¬ Nm 65 90 ⟨l.toArray⟩) : leafT l = .node 2 0 ⟨l.toArray⟩ [] := by
  unfold leafT; rw [dif_neg h, if_neg k]

/-- An argument for the innermost operator. -/
def addA (t : T) : List T → List T
  | [] => []
  | .node k n s xs :: r => .node k n s (xs ++ [t]) :: r
/-- A symbol for it; an empty one is none. -/
noncomputable def addS (l : List UInt8) (st : List T) : List T := if l = [] then st else addA (leafT l) st
/-- One byte of the text; none: it is no representation. -/
noncomputable def stepR (s : List T × List UInt8) (c : UInt8) : Option (List T × List UInt8) :=
  if c = 40 then some (.node 2 0 ⟨s.2.toArray⟩ [] :: s.1, [])
  else if c = 44 ∨ c = 32 then some (addS s.2 s.1, [])
  else if c = 41 then match addS s.2 s.1 with
    | x :: y :: r => some (addA x (y :: r), [])
    | _ => none
  else some (s.1, s.2 ++ [c])
noncomputable def runR (l : List UInt8) (s : List T × List UInt8) : Option (List T × List UInt8) := l.foldlM stepR s
/-- What there is at the end. -/
noncomputable def endR (s : List T × List UInt8) : Option T := match addS s.2 s.1 with
  | [.node _ _ _ [t]] => some t
  | _ => none
abbrev baseT : T := .node 0 0 ByteArray.empty []
noncomputable def readR (l : List UInt8) : Option T := (runR l ([baseT], [])).bind endR

def Special (c : UInt8) : Prop := c = 40 ∨ c = 41 ∨ c = 44 ∨ c = 32
theorem runR_append (a b : List UInt8) (s : List T × List UInt8) : runR (a ++ b) s = (runR a s).bind (runR b) := by
  unfold runR; rw [List.foldlM_append]; rfl
theorem runR_one (c : UInt8) (s : List T × List UInt8) : runR [c] s = stepR s c := by
  unfold runR
  simp only [List.foldlM_cons, List.foldlM_nil]
  cases stepR s c <;> rfl
theorem stepR_plain {c : UInt8} (h : ¬ Special c) (s : List T × List UInt8) : stepR s c = some (s.1, s.2 ++ [c]) := by
  unfold Special at h
  unfold stepR
  rw [if_neg (fun e => h (Or.inl e)), if_neg (fun e => h (by rcases e with e | e; exact Or.inr (Or.inr (Or.inl e)); exact Or.inr (Or.inr (Or.inr e)))), if_neg (fun e => h (Or.inr (Or.inl e)))]
theorem runR_plain (l : List UInt8) (h : ∀ c ∈ l, ¬ Special c) (st : List T) (cur : List UInt8) : runR l (st, cur) = some (st, cur ++ l) := by
  induction l generalizing cur with
  | nil => simp [runR]
  | cons c r ih =>
    have e : c :: r = [c] ++ r := rfl
    rw [e, runR_append, runR_one, stepR_plain (h c (by simp))]
    show runR r (st, cur ++ [c]) = _
    rw [ih (fun x hx => h x (by simp [hx]))]
    simp

/-- The symbol at hand is passed on. -/
noncomputable def settleR (s : List T × List UInt8) : List T := addS s.2 s.1
theorem addS_nil (st : List T) : addS [] st = st := by simp [addS]
theorem addS_some {l : List UInt8} (h : l ≠ []) (st : List T) : addS l st = addA (leafT l) st := by simp [addS, h]

theorem name_bytes {lo hi : Int} {s : ByteArray} (h : Nm lo hi s) (hlo : 48 ≤ lo) (hhi : hi ≤ 122) : s.data.toList ≠ [] ∧ ∀ c ∈ s.data.toList, ¬ Special c := by
  constructor
  · intro e
    have h1 := h.1
    have : s.data.toList.length = 0 := by rw [e]; rfl
    have e2 : s.data.toList.length = s.size := by simp
    omega
  · intro c hc
    obtain ⟨i, hi, rfl⟩ := List.getElem_of_mem hc
    have e2 : s.data.toList.length = s.size := by simp
    have hb : byteAt s i = (s.data.toList[i].toNat : Int) := by rw [byteAt_lt s i (by omega)]; rfl
    have hr : 48 ≤ byteAt s i := by
      by_cases h0 : i = 0
      · subst h0; have := h.2.2.1; omega
      · have := h.2.2.2.2 i (by omega) (by omega); unfold Cont at this; omega
    rw [hb] at hr
    rintro (e | e | e | e) <;> · rw [e] at hr; simp at hr
theorem digits_of_num {v : Int} {l : List UInt8} (h : IsNum v l) : l ≠ [] ∧ ∀ c ∈ l, 48 ≤ c.toNat ∧ c.toNat ≤ 57 := by
  obtain ⟨h0, _, rfl⟩ := h
  obtain ⟨u, rfl⟩ : ∃ u : Nat, v = u := ⟨v.toNat, by omega⟩
  rw [Lib.itoa_nonneg]
  exact ⟨dec_ne_nil u, digits_dec u⟩
theorem num_not_name {lo hi : Int} {s : ByteArray} (h : Nm lo hi s) (hlo : 58 ≤ lo) : ¬ ∃ v, IsNum v s.data.toList := by
  rintro ⟨v, hv⟩
  obtain ⟨h0, hd⟩ := digits_of_num hv
  have h1 := h.1
  have h2 := h.2.2.1
  rw [byteAt_lt s 0 (by omega)] at h2
  have := hd s[0] (by show s.data[0] ∈ s.data.toList; exact Array.getElem_mem_toList _)
  have e : ((s[0].toNat : Nat) : Int) = s[0].toNat := rfl
  omega
theorem word_bytes {n : Int} (h0 : 0 ≤ n) (h1 : n ≤ 3) : Lib.itoa n ≠ [] ∧ ∀ c ∈ Lib.itoa n, ¬ Special c := by
  rw [itoa_word h0 h1]
  refine ⟨by simp, fun c hc => ?_⟩
  rw [List.mem_singleton] at hc
  subst hc
  unfold Special
  rcases (by omega : n.toNat = 0 ∨ n.toNat = 1 ∨ n.toNat = 2 ∨ n.toNat = 3) with h | h | h | h <;> · rw [h]; decide

theorem mk_data (s : ByteArray) : (⟨s.data.toList.toArray⟩ : ByteArray) = s := by simp

/-- A leaf is read. -/
theorem leaf_ok {k n : Int} {s : ByteArray} (h : NodeOk k n s 0) : textL (.node k n s []) ≠ [] ∧ (∀ c ∈ textL (.node k n s []), ¬ Special c) ∧ leafT (textL (.node k n s [])) = .node k n s [] := by
  rw [textL_node]
  rcases h with ⟨rfl, hs, rfl, _⟩ | ⟨rfl, hs, rfl⟩ | ⟨rfl, hs, h0, h1, _⟩
  · rw [if_neg (by decide), if_pos (by rfl)]
    have hb := name_bytes hs (by decide) (by decide)
    refine ⟨hb.1, hb.2, ?_⟩
    rw [leafT_var (num_not_name hs (by decide)) (by rw [mk_data]; exact hs), mk_data]
  · rw [if_neg (by decide), if_pos (by rfl)]
    have hb := name_bytes hs (by decide) (by decide)
    refine ⟨hb.1, hb.2, ?_⟩
    rw [leafT_app (num_not_name hs (by decide)) (by rw [mk_data]; exact fun h => nm_apart s hs h), mk_data]
  · rw [if_pos rfl]
    refine ⟨(word_bytes h0 h1).1, (word_bytes h0 h1).2, ?_⟩
    rw [leafT_num ⟨h0, by omega, rfl⟩]
    have : s = ByteArray.empty := by
      apply ByteArray.ext
      exact Array.eq_empty_of_size_eq_zero hs
    rw [this]

theorem run_text : ∀ t : T, OkT t → ∀ (p : T) (st : List T), ∃ s1, runR (textL t) (p :: st, []) = some s1 ∧ settleR s1 = addA t (p :: st)
  | .node k n s xs, hok, p, st => by
    obtain ⟨hn, hx⟩ := okT_kid hok
    have ih : ∀ x ∈ xs, ∀ (p : T) (st : List T), ∃ s1, runR (textL x) (p :: st, []) = some s1 ∧ settleR s1 = addA x (p :: st) := fun x hm => run_text x (hx x hm)
    by_cases h0 : xs = []
    · subst h0
      obtain ⟨h1, h2, h3⟩ := leaf_ok hn
      refine ⟨_, runR_plain _ h2 _ _, ?_⟩
      unfold settleR
      rw [List.nil_append, addS_some h1, h3]
    · have hne : xs.length ≠ 0 := fun e => h0 (List.eq_nil_of_length_eq_zero e)
      have hk : k = 2 ∧ Nm 97 122 s ∧ n = 0 := by
        rcases hn with ⟨_, _, _, h⟩ | h | ⟨_, _, _, _, h⟩
        · exact absurd h hne
        · exact h
        · exact absurd h hne
      obtain ⟨rfl, hs, rfl⟩ := hk
      have hb := name_bytes hs (by decide) (by decide)
      -- the arguments, one after the other
      have args : ∀ (ys zs : List T), ys ≠ [] → (∀ x ∈ ys, x ∈ xs) → runR (Lib.join (ys.map textL) [44, 32] ++ [41]) (.node 2 0 s zs :: p :: st, []) = some (addA (.node 2 0 s (zs ++ ys)) (p :: st), []) := by
        intro ys
        induction ys with
        | nil => intro zs h; exact absurd rfl h
        | cons y r ihr =>
          intro zs _ hm
          obtain ⟨s1, hr1, hs1⟩ := ih y (hm y (by simp)) (.node 2 0 s zs) (p :: st)
          cases r with
          | nil =>
            rw [List.map_cons, List.map_nil, Lib.join_one, runR_append, hr1]
            show runR [41] s1 = _
            rw [runR_one]
            unfold stepR
            rw [if_neg (by decide), if_neg (by decide), if_pos rfl]
            unfold settleR at hs1
            rw [hs1]
            rfl
          | cons z r =>
            have e : Lib.join ((y :: z :: r).map textL) [44, 32] ++ [41] = textL y ++ ([44] ++ ([32] ++ (Lib.join ((z :: r).map textL) [44, 32] ++ [41]))) := by
              simp [Lib.join_cons, Lib.joinTail]
            rw [e, runR_append, hr1]
            show runR _ s1 = _
            have e44 : stepR s1 44 = some (addS s1.2 s1.1, []) := by
              unfold stepR; rw [if_neg (by decide), if_pos (Or.inl rfl)]
            have e32 : ∀ q : List T, stepR (q, []) 32 = some (q, []) := fun q => by
              unfold stepR; rw [if_neg (by decide), if_pos (Or.inr rfl), addS_nil]
            unfold settleR at hs1
            rw [runR_append, runR_one, e44, hs1]
            show runR _ (_, _) = _
            rw [runR_append, runR_one, e32]
            show runR _ (_, _) = _
            rw [show addA y (T.node 2 0 s zs :: p :: st) = .node 2 0 s (zs ++ [y]) :: p :: st from rfl, ihr (zs ++ [y]) (by simp) (fun x hxm => hm x (by simp [hxm]))]
            simp
      refine ⟨(addA (.node 2 0 s xs) (p :: st), []), ?_, ?_⟩
      · rw [textL_node, if_neg (by decide), if_neg hne, List.append_assoc, List.append_assoc, runR_append, runR_plain _ hb.2]
        show runR ([40] ++ _) _ = _
        rw [runR_append, runR_one]
        have e40 : stepR (p :: st, [] ++ s.data.toList) 40 = some (.node 2 0 s [] :: p :: st, []) := by
          unfold stepR; rw [if_pos rfl]; simp
        rw [e40]
        show runR _ (_, _) = _
        rw [args xs [] h0 (fun _ h => h)]
        rfl
      · unfold settleR; rw [addS_nil]

/-- A term is read from its representation. -/
theorem read_text (t : T) (h : OkT t) : readR (textL t) = some t := by
  obtain ⟨s1, h1, h2⟩ := run_text t h baseT []
  unfold readR
  rw [h1]
  show endR s1 = _
  unfold endR
  unfold settleR at h2
  rw [h2]
  rfl
/-- Valid terms with one representation are one. -/
theorem text_inj {a b : T} (ha : OkT a) (hb : OkT b) (h : textL a = textL b) : a = b := by
  have h1 := read_text a ha
  rw [h, read_text b hb] at h1
  exact (Option.some.inj h1).symm

/-! ### how much there is -/
def wL (st : List T) : Nat := wS st + st.length
theorem leafT_w (l : List UInt8) : wT (leafT l) ≤ l.length := by
  unfold leafT
  split
  · rw [wT_node]; simp [wS]
  · split <;> · rw [wT_node]; simp [wS, ByteArray.size]
theorem addA_w (t p : T) (st : List T) : wL (addA t (p :: st)) = wL (p :: st) + wT t + 1 := by
  obtain ⟨k, n, s, xs⟩ := p
  simp only [addA, wL, wS, List.map_cons, List.sum_cons, List.length_cons]
  rw [wT_node, wT_node, wS_snoc, List.length_append]
  simp; omega
theorem addS_w (l : List UInt8) (p : T) (st : List T) : wL (addS l (p :: st)) ≤ wL (p :: st) + 2 * l.length := by
  by_cases h : l = []
  · rw [h, addS_nil]; simp
  · rw [addS_some h, addA_w]
    have := leafT_w l
    have : 1 ≤ l.length := List.length_pos_iff.2 h
    omega
theorem addS_cons (l : List UInt8) (p : T) (st : List T) : ∃ q, addS l (p :: st) = q :: st := by
  by_cases h : l = []
  · exact ⟨p, by rw [h, addS_nil]⟩
  · obtain ⟨k, n, s, xs⟩ := p
    exact ⟨_, by rw [addS_some h]; rfl⟩
end Go.Proofs.YtidbokheeieifaaGreatDoor
namespace Go.Proofs.YtidbokheeieifaaGreatDoor
open Go.RowKit

/-- The library's two error variables hold each some error. -/
def ErrVars (w : World) : Prop := (∃ tp p, w.var? Tryz.prog synName = some #[.iface tp p]) ∧ ∃ tp p, w.var? Tryz.prog rngName = some #[.iface tp p]
theorem gSyn : Tryz.prog.globalNamed synName = some 4 := by kernel_rfl
theorem gRng : Tryz.prog.globalNamed rngName = some 5 := by kernel_rfl
theorem ErrVars.below {B : Nat} {w w' : World} (h : ErrVars w) (hb : Below B w w') (hB : 5 < B) : ErrVars w' := by
  obtain ⟨⟨tp, p, h1⟩, tq, q, h2⟩ := h
  exact ⟨⟨tp, p, var?_below hb gSyn (by omega) h1⟩, tq, q, var?_below hb gRng (by omega) h2⟩

/-- How the reading ends: the integer, or a panic of a string. -/
def IntEnd (lo hi : Int) (l : List UInt8) (w : World) (e : Ending) (w' : World) : Prop :=
  Below w.heap.size w w' ∧ ((∃ v, lo ≤ v ∧ v ≤ hi ∧ Lib.itoa v = l ∧ e = .returned (.int .i64 v)) ∨
    ((∀ u, lo ≤ u → u ≤ hi → Lib.itoa u ≠ l) ∧ ∃ s, e = .panicked [{ v := .iface 9 (.string s), recovered := false }]))

set_option maxRecDepth 100000 in
set_option maxHeartbeats 400000 in
theorem intOf_syn (s : ByteArray) (lo hi : Int) (w : World) (hs : s.size ≤ 281474976710656) (hlo : -9223372036854775808 ≤ lo) (hhi : hi ≤ 9223372036854775807) (he : ErrVars w)
    (h : Lib.atoiAll s.data.toList = Lib.atoiAll []) :
    Calls Tryz.prog 128 #[.string s, .int .i64 lo, .int .i64 hi] w (IntEnd lo hi s.data.toList w) := by
  obtain ⟨⟨tp, p, hv⟩, -⟩ := he
  have hno : ∀ u, lo ≤ u → u ≤ hi → Lib.itoa u ≠ s.data.toList := fun u h0 h1 e => by
    rw [← e, atoi_itoa u (by omega) (by omega)] at h
    have e0 : Lib.atoiAll [] = Lib.signless (Lib.parseMag []) := rfl
    rw [e0] at h
    simp [Lib.parseMag, Lib.signless] at h
  have HN := Lib.hid hno; clear hno
  have HV := Lib.hid hv; clear hv
  have HA := Lib.hid h; clear h
  go_enter Tryz.func128, Tryz.ntmps128
  go_wp2_with fail
  refine (Any.strconv_Atoi_syntax_var Tryz.laysC172 s hs HA.out tp p _ HV.out).mono ?_
  rintro e w1 ⟨N, rfl, -, -, hb⟩
  go_wp2
  exact ⟨rfl, hb, Or.inr ⟨HN.out, _, rfl⟩⟩

set_option maxRecDepth 100000 in
set_option maxHeartbeats 400000 in
theorem intOf_range (s : ByteArray) (lo hi : Int) (w : World) (hs : s.size ≤ 281474976710656) (hlo : -9223372036854775808 ≤ lo) (hhi : hi ≤ 9223372036854775807) (he : ErrVars w)
    (h : Lib.atoiAll s.data.toList = .range) :
    Calls Tryz.prog 128 #[.string s, .int .i64 lo, .int .i64 hi] w (IntEnd lo hi s.data.toList w) := by
  obtain ⟨-, tp, p, hv⟩ := he
  have hno : ∀ u, lo ≤ u → u ≤ hi → Lib.itoa u ≠ s.data.toList := fun u h0 h1 e => by
    rw [← e, atoi_itoa u (by omega) (by omega)] at h; cases h
  have HN := Lib.hid hno; clear hno
  have HV := Lib.hid hv; clear hv
  have HA := Lib.hid h; clear h
  go_enter Tryz.func128, Tryz.ntmps128
  go_wp2_with fail
  refine (Any.strconv_Atoi_range_var Tryz.laysC172 s hs HA.out tp p _ HV.out).mono ?_
  rintro e w1 ⟨N, rfl, -, -, hb⟩
  go_wp2
  exact ⟨rfl, hb, Or.inr ⟨HN.out, _, rfl⟩⟩

set_option maxRecDepth 100000 in
set_option maxHeartbeats 400000 in
/-- The library reads an int that lies outside the limits. -/
theorem intOf_out (s : ByteArray) (lo hi v : Int) (w : World) (hs : s.size ≤ 281474976710656) (hlo : -9223372036854775808 ≤ lo) (hhi : hi ≤ 9223372036854775807)
    (h : Lib.atoiAll s.data.toList = .ok v) (hv : v < lo ∨ hi < v) :
    Calls Tryz.prog 128 #[.string s, .int .i64 lo, .int .i64 hi] w (IntEnd lo hi s.data.toList w) := by
  have hno : ∀ u, lo ≤ u → u ≤ hi → Lib.itoa u ≠ s.data.toList := fun u h0 h1 e => by
    rw [← e, atoi_itoa u (by omega) (by omega)] at h; injection h with h; omega
  have HN := Lib.hid hno; clear hno
  have HA := Lib.hid h; clear h
  rcases hv with hv | hv
  · go_enter Tryz.func128, Tryz.ntmps128
    go_wp2_with fail
    refine (Any.strconv_Atoi_ok Tryz.laysC172 s (by omega) v HA.out _).mono ?_
    rintro e w1 ⟨rfl, hw⟩
    have hb : Below w.heap.size w w1 := by
      rcases hw with rfl | ⟨t, rfl⟩
      · exact Below.refl _ _
      · exact Lib.bytesWorld_below _ _ _
    clear hw
    go_wp2
    exact ⟨rfl, hb, Or.inr ⟨HN.out, _, rfl⟩⟩
  · by_cases hl : v < lo
    all_goals
      go_enter Tryz.func128, Tryz.ntmps128
      go_wp2_with fail
      refine (Any.strconv_Atoi_ok Tryz.laysC172 s (by omega) v HA.out _).mono ?_
      rintro e w1 ⟨rfl, hw⟩
      have hb : Below w.heap.size w w1 := by
        rcases hw with rfl | ⟨t, rfl⟩
        · exact Below.refl _ _
        · exact Lib.bytesWorld_below _ _ _
      clear hw
      go_wp2
      exact ⟨rfl, hb, Or.inr ⟨HN.out, _, rfl⟩⟩

set_option maxRecDepth 100000 in
set_option maxHeartbeats 400000 in
/-- The library reads an int within the limits: then its numeral is held against s. -/
theorem intOf_in (s : ByteArray) (lo hi v : Int) (w : World) (hs : s.size ≤ 281474976710656) (hlo : -9223372036854775808 ≤ lo) (hhi : hi ≤ 9223372036854775807) (ht : PowTab w) (hz : 5 < w.heap.size)
    (h : Lib.atoiAll s.data.toList = .ok v) (hv0 : lo ≤ v) (hv1 : v ≤ hi) :
    Calls Tryz.prog 128 #[.string s, .int .i64 lo, .int .i64 hi] w (IntEnd lo hi s.data.toList w) := by
  have HT := Lib.hid ht; clear ht
  have HA := Lib.hid h; clear h
  by_cases hc : Lib.itoa v = s.data.toList
  · have hq : (Lib.itoa v == s.toList) = true := by rw [ByteArray.toList_eq]; simpa using hc
    have HC := Lib.hid hc; clear hc
    go_enter Tryz.func128, Tryz.ntmps128
    go_wp2_with fail
    refine (Any.strconv_Atoi_ok Tryz.laysC172 s (by omega) v HA.out _).mono ?_
    rintro e w1 ⟨rfl, hw⟩
    have hb : Below w.heap.size w w1 := by
      rcases hw with rfl | ⟨t, rfl⟩
      · exact Below.refl _ _
      · exact Lib.bytesWorld_below _ _ _
    clear hw
    go_wp2_with fail
    refine (iFormat_any v _ (by omega) (by omega) (HT.out.below hb (by omega))).mono ?_
    rintro e w2 ⟨rfl, hb2⟩
    go_wp2
    go_ret
    exact ⟨hb.trans (hb2.mono hb.size), Or.inl ⟨v, hv0, hv1, HC.out, rfl⟩⟩
  · have hq : (Lib.itoa v == s.toList) = false := by rw [ByteArray.toList_eq]; simpa using hc
    have hno : ∀ u, lo ≤ u → u ≤ hi → Lib.itoa u ≠ s.data.toList := fun u h0 h1 e => by
      have h2 := HA.out
      rw [← e, atoi_itoa u (by omega) (by omega)] at h2
      injection h2 with h2
      subst h2
      exact hc e
    have HN := Lib.hid hno; clear hno hc
    go_enter Tryz.func128, Tryz.ntmps128
    go_wp2_with fail
    refine (Any.strconv_Atoi_ok Tryz.laysC172 s (by omega) v HA.out _).mono ?_
    rintro e w1 ⟨rfl, hw⟩
    have hb : Below w.heap.size w w1 := by
      rcases hw with rfl | ⟨t, rfl⟩
      · exact Below.refl _ _
      · exact Lib.bytesWorld_below _ _ _
    clear hw
    go_wp2_with fail
    refine (iFormat_any v _ (by omega) (by omega) (HT.out.below hb (by omega))).mono ?_
    rintro e w2 ⟨rfl, hb2⟩
    go_wp2
    exact ⟨rfl, hb.trans (hb2.mono hb.size), Or.inr ⟨HN.out, _, rfl⟩⟩

/-- impl.integerOf, at every string. -/
theorem intOf_any (s : ByteArray) (lo hi : Int) (w : World) (hs : s.size ≤ 281474976710656) (hlo : -9223372036854775808 ≤ lo) (hhi : hi ≤ 9223372036854775807) (ht : PowTab w) (he : ErrVars w) (hz : 5 < w.heap.size) :
    Calls Tryz.prog 128 #[.string s, .int .i64 lo, .int .i64 hi] w (IntEnd lo hi s.data.toList w) := by
  cases h : Lib.atoiAll s.data.toList
  · rename_i v
    by_cases hv : lo ≤ v ∧ v ≤ hi
    · exact intOf_in s lo hi v w hs hlo hhi ht hz h hv.1 hv.2
    · exact intOf_out s lo hi v w hs hlo hhi h (by omega)
  · exact intOf_syn s lo hi w hs hlo hhi he h
  · exact intOf_range s lo hi w hs hlo hhi he h
end Go.Proofs.YtidbokheeieifaaGreatDoor
namespace Go.Proofs.YtidbokheeieifaaGreatDoor
open Go.RowKit

theorem catchN_panicking (p q : Addr) (x : Int) (b : Bool) (u : TypeId) (pv : Value) (older : List PanicEntry) (w : World) (hc : w.cell? p = some (.int .i64 x)) (hz : w.frozen? p = false)
    (hc2 : ∀ v, (w.setCell p v).cell? q = some (.bool b)) (hz2 : ∀ v, (w.setCell p v).frozen? q = false) :
    CallsD Tryz.prog 127 #[.pointer (some p), .pointer (some q)] (.panicking ({ v := .iface u pv, recovered := false } :: older)) w fun e u' w' =>
      e = .returned (.tuple #[]) ∧ u' = .panicking ({ v := .iface u pv, recovered := true } :: older) ∧ w' = (w.setCell p (.int .i64 0)).setCell q (.bool false) := by
  refine callsD_of_wpS Tryz.func127 rfl fun c₀ cs hu => ?_
  apply wpS_seq
  apply wpS_region
  simp [wpOpsS, go_sem, recoverD, hu, Tryz.ntmps127, Exit.thenS]
  refine wpS_cond (t := true) (by simp [Act.eval, Array.replicate]) ?_
  simp only [if_true]
  apply wpS_region
  simp [wpOpsS, go_sem, hc, hz, hc2, hz2, bodyPostS, results, Tryz.results127]

theorem catchN_idle (p q : Addr) (w : World) :
    CallsD Tryz.prog 127 #[.pointer (some p), .pointer (some q)] .returning w fun e u' w' => e = .returned (.tuple #[]) ∧ u' = .returning ∧ w' = w := by
  refine callsD_of_wpS Tryz.func127 rfl fun c₀ cs hu => ?_
  apply wpS_seq
  apply wpS_region
  simp [wpOpsS, go_sem, recoverD, hu, Tryz.ntmps127, Exit.thenS]
  refine wpS_cond (t := false) (by simp [Act.eval, Array.replicate]) ?_
  simp only [Bool.false_eq_true, if_false]
  refine wpS_of_wp (wp_skip ?_)
  cases c₀
  simp_all [bodyPostS, results, Tryz.results127]

theorem bcell {W w1 : World} (hb : Below W.heap.size W w1) : (∀ b o, b < W.heap.size → w1.cell? ⟨b, o, none⟩ = W.cell? ⟨b, o, none⟩) ∧ (∀ b o, b < W.heap.size → w1.frozen? ⟨b, o, none⟩ = W.frozen? ⟨b, o, none⟩) :=
  ⟨fun b o h => hb.cell (p := ⟨b, o, none⟩) h, fun b o h => hb.frozen (p := ⟨b, o, none⟩) h⟩

/-- What the reading hands back. -/
def PairEnd (lo hi : Int) (l : List UInt8) (w : World) (e : Ending) (w' : World) : Prop :=
  Below w.heap.size w w' ∧ ∃ (v : Int) (b : Bool), e = .returned (.tuple #[.int .i64 v, .bool b]) ∧ Good lo hi l v b

set_option maxRecDepth 100000 in
set_option maxHeartbeats 400000 in
theorem iNumber_any (s : ByteArray) (w : World) (hs : s.size ≤ 281474976710656) (ht : PowTab w) (he : ErrVars w) (hz : 5 < w.heap.size) :
    Calls Tryz.prog 117 #[.string s] w (PairEnd 0 999999 s.data.toList w) := by
  have hmf : ∀ (fn : Fn) (first cap : Array Value) (w : World), (Instr.makeFunc fn first cap).run Tryz.prog w = .ok (.func fn first cap) w := fun _ _ _ _ => rfl
  have hb0 : Below w.heap.size w ((w.alloc (.cells #[.int .i64 0] 3)).alloc (.cells #[.bool false] 4)) := ((Below.refl _ _).alloc (Nat.le_refl _) _).alloc (by simp) _
  have HT := Lib.hid (ht.below hb0 (by omega)); clear ht
  have HE := Lib.hid (he.below hb0 (by omega)); clear he
  have HB0 := Lib.hid hb0; clear hb0
  go_enter_defers Tryz.func117, Tryz.ntmps117
  go_wp2_with fail
  refine (intOf_any s 0 999999 _ hs (by omega) (by omega) HT.out HE.out (by simp; omega)).mono ?_
  rintro e w1 ⟨hb, h⟩
  have hlen : w.heap.size + 1 < w1.heap.size := by have := hb.size; simp at this; omega
  obtain ⟨hcl, hfr⟩ := bcell hb
  have c0 : w1.cell? ⟨w.heap.size, 0, none⟩ = some (.int .i64 0) := by rw [hcl _ _ (by simp; omega)]; simp [go_sem]
  have c1 : w1.cell? ⟨w.heap.size + 1, 0, none⟩ = some (.bool false) := by rw [hcl _ _ (by simp)]; simp [go_sem]
  have f0 : w1.frozen? ⟨w.heap.size, 0, none⟩ = false := by rw [hfr _ _ (by simp; omega)]; simp [go_sem]
  have f1 : w1.frozen? ⟨w.heap.size + 1, 0, none⟩ = false := by rw [hfr _ _ (by simp)]; simp [go_sem]
  have HB := Lib.hid hb; clear hb hcl hfr
  rcases h with ⟨v, h0, h1, h2, rfl⟩ | ⟨hno, s', rfl⟩
  · have hg : Good 0 999999 s.data.toList v true := ⟨fun _ => ⟨h0, h1, h2⟩, fun h => by cases h⟩
    have HG := Lib.hid hg; clear hg h2
    go_wp2
    refine leaves_cons (f := 127) (args := #[.pointer (some ⟨w.heap.size, 0, none⟩), .pointer (some ⟨w.heap.size + 1, 0, none⟩)]) (by simp) (by simp [go_sem]) ?_
    refine (catchN_idle _ _ _).mono ?_
    rintro e u' w'' ⟨rfl, rfl, rfl⟩
    have r0 := World.cell?_setCell_same w1 ⟨w.heap.size, 0, none⟩ (Value.int .i64 v) c0
    have r1 := World.cell?_setCell_same (w1.setCell ⟨w.heap.size, 0, none⟩ (Value.int .i64 v)) ⟨w.heap.size + 1, 0, none⟩ (Value.bool true) (u := .bool false) (by simp [go_sem, c1])
    simp [Leaves, settle, results, Tryz.results117, go_sem, r0, r1]
    exact ⟨((HB0.out.trans (HB.out.mono HB0.out.size)).setCell (Nat.le_refl _) _).setCell (by simp) _, _, _, rfl, HG.out⟩
  · have hg : Good 0 999999 s.data.toList 0 false := ⟨fun h => (by cases h), fun _ => ⟨rfl, hno⟩⟩
    have HG := Lib.hid hg; clear hg hno
    go_wp2
    refine leaves_cons (f := 127) (args := #[.pointer (some ⟨w.heap.size, 0, none⟩), .pointer (some ⟨w.heap.size + 1, 0, none⟩)]) (by simp) (by simp [go_sem]) ?_
    refine (catchN_panicking _ _ 0 false _ _ _ _ ?_ ?_ ?_ ?_).mono ?_
    · exact c0
    · exact f0
    · intro v; simp [go_sem, c1]
    · intro v; simp [go_sem, f1]
    rintro e u' w'' ⟨rfl, rfl, rfl⟩
    have r0 := World.cell?_setCell_same w1 ⟨w.heap.size, 0, none⟩ (Value.int .i64 0) c0
    have r1 := World.cell?_setCell_same (w1.setCell ⟨w.heap.size, 0, none⟩ (Value.int .i64 0)) ⟨w.heap.size + 1, 0, none⟩ (Value.bool false) (u := .bool false) (by simp [go_sem, c1])
    simp [Leaves, settle, results, Tryz.results117, go_sem, r0, r1]
    exact ⟨((HB0.out.trans (HB.out.mono HB0.out.size)).setCell (Nat.le_refl _) _).setCell (by simp) _, _, _, rfl, HG.out⟩
end Go.Proofs.YtidbokheeieifaaGreatDoor
namespace Go.Proofs.YtidbokheeieifaaGreatDoor
open Go.RowKit

theorem cells4r {Y : World} {b : Nat} {x0 x1 x2 x3 : Value} (hb : Y.heap[b]? = some (.cells #[x0, x1, x2, x3] 26 (0, 0))) : (Y.cell? ⟨b, 0, none⟩ = some x0 ∧ Y.cell? ⟨b, 1, none⟩ = some x1 ∧ Y.cell? ⟨b, 2, none⟩ = some x2 ∧ Y.cell? ⟨b, 3, none⟩ = some x3) ∧
    (Y.frozen? ⟨b, 0, none⟩ = false ∧ Y.frozen? ⟨b, 1, none⟩ = false ∧ Y.frozen? ⟨b, 2, none⟩ = false ∧ Y.frozen? ⟨b, 3, none⟩ = false) := by
  have a0 := cell_of_row Y b 0 _ _ _ hb
  have a1 := cell_of_row Y b 1 _ _ _ hb
  have a2 := cell_of_row Y b 2 _ _ _ hb
  have a3 := cell_of_row Y b 3 _ _ _ hb
  simp at a0 a1 a2 a3
  exact ⟨⟨a0, a1, a2, a3⟩, frozen_of_row Y b 0 _ _ hb, frozen_of_row Y b 1 _ _ hb, frozen_of_row Y b 2 _ _ hb, frozen_of_row Y b 3 _ _ hb⟩

/-- The tables that the reading of a number needs. -/
def TabsAt (w : World) : Prop := PowTab w ∧ ErrVars w ∧ 5 < w.heap.size
theorem TabsAt.below {w w' : World} (h : TabsAt w) (hb : Below w.heap.size w w') (hp : 1 < w.heap.size) : TabsAt w' :=
  ⟨h.1.below hb hp, h.2.1.below hb h.2.2, Nat.lt_of_lt_of_le h.2.2 hb.size⟩
theorem TabsAt.low {w : World} (h : TabsAt w) : 1 < w.heap.size := by have := h.2.2; omega

def LeafEnd (s : ByteArray) (w : World) (e : Ending) (w' : World) : Prop :=
  ∃ k n nm, e = .returned (tv k n nm (.slice none 0 0)) ∧ leafT s.data.toList = .node k n nm [] ∧ nm.size ≤ s.size ∧ Below w.heap.size w w'

theorem leaf_below {w w1 : World} (hb : Below w.heap.size w w1) (v0 v1 v2 v3 : Value) : Below w.heap.size w ((((w1.setCell ⟨w.heap.size, 0, none⟩ v0).setCell ⟨w.heap.size, 1, none⟩ v1).setCell ⟨w.heap.size, 2, none⟩ v2).setCell ⟨w.heap.size, 3, none⟩ v3) :=
  (((hb.setCell (Nat.le_refl _) _).setCell (Nat.le_refl _) _).setCell (Nat.le_refl _) _).setCell (Nat.le_refl _) _

set_option maxRecDepth 100000 in
set_option maxHeartbeats 1600000 in
theorem leafOf_any (s : ByteArray) (w : World) (hs : s.size ≤ 100000) (ht : TabsAt w) : Calls Tryz.prog 101 #[.string s] w (LeafEnd s w) := by
  have hbz : Below w.heap.size w (w.alloc zRow) := bel_al _ _
  have HTZ := Lib.hid (ht.below hbz ht.low); clear ht
  have HBZ := Lib.hid hbz; clear hbz
  go_enter Tryz.func101, Tryz.ntmps101
  go_wp2_with fail
  refine (iNumber_any s (w.alloc zRow) (by omega) HTZ.out.1 HTZ.out.2.1 HTZ.out.2.2).mono ?_
  rintro e w1 ⟨hb, v, b, rfl, hg⟩
  have HG := Lib.hid hg; clear hg
  have HB1 := Lib.hid (HBZ.out.trans (hb.mono HBZ.out.size))
  obtain ⟨⟨x0, x1, x2, x3⟩, f0, f1, f2, f3⟩ := cells4r ((hb.block w.heap.size (by simp)).trans (heap_new w zRow rfl))
  clear hb
  cases b with
  | true =>
    obtain ⟨h0, h1, h2⟩ := HG.out.1 rfl
    have HF : Hid (LeafEnd s w (.returned (tv 3 v ByteArray.empty (.slice none 0 0))) ((((w1.setCell ⟨w.heap.size, 0, none⟩ (.int .i64 3)).setCell ⟨w.heap.size, 1, none⟩ (.int .i64 v)).setCell ⟨w.heap.size, 2, none⟩ (.string ⟨#[]⟩)).setCell ⟨w.heap.size, 3, none⟩ (.slice none 0 0))) :=
      Lib.hid ⟨3, v, ByteArray.empty, rfl, leafT_num ⟨h0, h1, h2⟩, Nat.zero_le _, leaf_below HB1.out _ _ _ _⟩
    clear h0 h1 h2
    go_wp2
    (try simp only [Exit.inBlock, Exit.then])
    refine bodyPost_ret (v := tv 3 v ByteArray.empty (.slice none 0 0)) ?hr rfl ?_
    case hr =>
      rw [results_cell (a := 2) (t := 26) (ad := ⟨w.heap.size, 0, none⟩) rfl rfl]
      go_simp
      rfl
    exact HF.out
  | false =>
    have hno : ¬ ∃ u, IsNum u s.data.toList := fun ⟨u, h0, h1, h2⟩ => (HG.out.2 rfl).2 u h0 h1 h2
    have HNO := Lib.hid hno; clear hno
    go_wp2_with fail
    refine (iVar_any s w1 (by omega)).mono ?_
    rintro e w2 ⟨q, rfl, hq, rfl⟩
    cases q with
    | true =>
      have HF : Hid (LeafEnd s w (.returned (tv 1 0 s (.slice none 0 0))) ((((w2.setCell ⟨w.heap.size, 0, none⟩ (.int .i64 1)).setCell ⟨w.heap.size, 1, none⟩ (.int .i64 0)).setCell ⟨w.heap.size, 2, none⟩ (.string s)).setCell ⟨w.heap.size, 3, none⟩ (.slice none 0 0))) :=
        Lib.hid ⟨1, 0, s, rfl, by rw [leafT_var HNO.out (by rw [mk_data]; exact hq.1 rfl), mk_data], Nat.le_refl _, leaf_below HB1.out _ _ _ _⟩
      clear hq
      go_wp2
      (try simp only [Exit.inBlock, Exit.then])
      refine bodyPost_ret (v := tv 1 0 s (.slice none 0 0)) ?hr rfl ?_
      case hr =>
        rw [results_cell (a := 2) (t := 26) (ad := ⟨w.heap.size, 0, none⟩) rfl rfl]
        go_simp
      exact HF.out
    | false =>
      have HF : Hid (LeafEnd s w (.returned (tv 2 0 s (.slice none 0 0))) ((((w2.setCell ⟨w.heap.size, 0, none⟩ (.int .i64 2)).setCell ⟨w.heap.size, 1, none⟩ (.int .i64 0)).setCell ⟨w.heap.size, 2, none⟩ (.string s)).setCell ⟨w.heap.size, 3, none⟩ (.slice none 0 0))) :=
        Lib.hid ⟨2, 0, s, rfl, by rw [leafT_app HNO.out (by rw [mk_data]; intro h; have := hq.2 h; simp at this), mk_data], Nat.le_refl _, leaf_below HB1.out _ _ _ _⟩
      clear hq
      go_wp2
      (try simp only [Exit.inBlock, Exit.then])
      refine bodyPost_ret (v := tv 2 0 s (.slice none 0 0)) ?hr rfl ?_
      case hr =>
        rw [results_cell (a := 2) (t := 26) (ad := ⟨w.heap.size, 0, none⟩) rfl rfl]
        go_simp
      exact HF.out

/-- The stack v holds the terms st, the topmost first. -/
def StkAt (lo0 lo : Nat) (v : Value) (st : List T) (w : World) : Prop := ∃ H xs, w.ownsRow lo0 26 4 v st.length xs ∧ StX w lo v H w.heap.size st.reverse xs
theorem StkAt.below {lo0 lo : Nat} {v : Value} {st : List T} {w w' : World} (h : StkAt lo0 lo v st w) (hb : Below w.heap.size w w') : StkAt lo0 lo v st w' := by
  obtain ⟨H, xs, ho, hx⟩ := h
  exact ⟨H, xs, keep_own ho hb, (hx.keep fun b hq _ h2 => ⟨hb.block b h2, hq⟩).topped hb.size⟩
theorem StkAt.form {lo0 lo : Nat} {v : Value} {p : T} {r : List T} {w : World} (h : StkAt lo0 lo v (p :: r) w) : ∃ g cap, v = .slice (some ⟨g, 0, none⟩) (r.length + 1) cap ∧ lo0 ≤ g ∧ g < w.heap.size := by
  obtain ⟨H, xs, ho, hx⟩ := h
  rcases ho.2 with ⟨_, h0⟩ | ⟨g, cap, cur, e, _⟩
  · simp at h0
  · exact ⟨g, cap, e, ho.lt g (by rw [e]; rfl)⟩
theorem StkAt.cap {lo0 lo g n cap : Nat} {p : T} {r : List T} {w : World} (h : StkAt lo0 lo (.slice (some ⟨g, 0, none⟩) n cap) (p :: r) w) : r.length + 1 ≤ cap := by
  obtain ⟨H, xs, ho, hx⟩ := h
  rcases ho.2 with ⟨_, h0⟩ | ⟨g', cap', cur, e, _, _, hc, _⟩
  · simp at h0
  · cases e; exact hc

/-- What a call on a stack leaves: blocks below, but for the stack's own row. -/
def Left (lo0 lo : Nat) (v : Value) (w w' : World) : Prop := Below lo0 w w' ∧ ∀ b, b < lo → b < w.heap.size → NotOwn v b → w'.heap[b]? = w.heap[b]?
theorem Left.refl (lo0 lo : Nat) (v : Value) (w : World) : Left lo0 lo v w w := ⟨Below.refl _ _, fun _ _ _ _ => rfl⟩
theorem Left.of {lo0 lo : Nat} {v : Value} {w w' : World} (hb : Below w.heap.size w w') (h0 : lo0 ≤ w.heap.size) : Left lo0 lo v w w' := ⟨hb.mono h0, fun b _ h _ => hb.block b h⟩
theorem Left.trans {lo0 lo : Nat} {v : Value} {a b c : World} (h : Left lo0 lo v a b) (k : Left lo0 lo v b c) : Left lo0 lo v a c :=
  ⟨h.1.trans k.1, fun j h1 h2 h3 => (k.2 j h1 (Nat.lt_of_lt_of_le h2 h.1.size) h3).trans (h.2 j h1 h2 h3)⟩

/-- A call that added the term a to the topmost one. -/
theorem StkAt.add {lo0 lo g cap H top : Nat} {v : Value} {k n : Int} {nm : ByteArray} {txs r : List T} {xs : List Value} {w : World} (h0 : lo0 ≤ lo) (ho : w.ownsRow lo0 26 4 v (r.length + 1) xs) (hx : StX w lo v H top (r.reverse ++ [.node k n nm txs]) xs) (htop : top ≤ w.heap.size)
    (hv : v = .slice (some ⟨g, 0, none⟩) (r.length + 1) cap) (hw : r.length ≤ 100000 ∧ txs.length ≤ 100000) {ka na : Int} {sa : ByteArray} {aa : Option Addr} {am ac La Ra : Nat} {axs : List T} (hsa : sa.size ≤ maxLen) (hLa : top ≤ La) (hLR : La ≤ Ra) (hRa : Ra ≤ w.heap.size)
    (hoa : OwnR (NotOwn v) w H La Ra (.slice aa am ac) axs) :
    Calls Tryz.prog 73 #[v, tv ka na sa (.slice aa am ac)] w (fun e w' => e = .returned (.tuple #[]) ∧ StkAt lo0 lo v (addA (.node ka na sa axs) (.node k n nm txs :: r)) w' ∧ Left lo0 lo v w w') := by
  have hl : r.reverse.length = r.length := List.length_reverse
  obtain ⟨u, ys, h3, hu, hnv, hstep⟩ := hx.add h0 (by rw [hl]; exact ho) htop (by unfold maxLen; omega)
  rw [hl] at h3
  have hc := addArg_any lo0 r.length g cap xs u txs.length ys ka na sa aa am ac w (by rw [← hv]; exact ho) hu h3 (fun j e e2 => by
    have := (hnv j e).1
    rw [hv, e2] at this
    exact this rfl) hw.1 hw.2
  rw [← hv] at hc
  refine hc.mono ?_
  rintro e w' ⟨rfl, u', hA⟩
  refine ⟨rfl, ⟨H + 1, xs.set (r.length * 4 + 3) u', hA.row, ?_⟩, hA.bel, fun b h1 h2 h3 => hA.keep b h2 h3 (fun e => by have := (hnv b e.symm).2; omega)⟩
  have := hstep w' u' ka na sa _ axs La Ra (by rw [hl]; exact hA) hsa hLa hLR hRa hoa
  rw [hl] at this
  simpa [addA] using this

set_option maxRecDepth 100000 in
set_option maxHeartbeats 1600000 in
theorem addSym_any (lo0 lo : Nat) (v : Value) (p : T) (r : List T) (s : ByteArray) (w : World) (hl0 : lo0 ≤ lo) (hs : s.size ≤ 100000) (ht : TabsAt w) (hst : StkAt lo0 lo v (p :: r) w) (hw : wL (p :: r) ≤ 100000) :
    Calls Tryz.prog 72 #[v, .string s] w (fun e w' => e = .returned (.tuple #[]) ∧ StkAt lo0 lo v (addS s.data.toList (p :: r)) w' ∧ Left lo0 lo v w w') := by
  obtain ⟨k, n, nm, txs⟩ := p
  by_cases h0 : s.size = 0
  · obtain rfl := no_empty s h0
    have HST := Lib.hid hst; clear hst
    go_enter Tryz.func72, Tryz.ntmps72
    go_wp2
    go_end0
    exact ⟨rfl, by rw [addS_nil]; exact HST.out, Left.refl _ _ _ _⟩
  · obtain ⟨hne, hne2⟩ := some_byte s h0
    have HN : Hid (s.data.toList ≠ []) := Lib.hid (fun e => h0 (by have := congrArg List.length e; simpa using this))
    obtain ⟨g, cap, hv, hg1, hg2⟩ := hst.form
    have HV := Lib.hid hv
    obtain ⟨H, xs, ho, hx⟩ := hst
    rw [List.reverse_cons] at hx
    have HO := Lib.hid ho; clear ho
    have HX := Lib.hid hx; clear hx
    have HW : Hid (r.length ≤ 100000 ∧ txs.length ≤ 100000) := Lib.hid (by
      simp only [wL, wS, List.map_cons, List.sum_cons, List.length_cons] at hw
      rw [wT_node] at hw
      omega)
    have HG := Lib.hid hg1
    have HL0 := Lib.hid hl0
    clear hw h0 hg2 hg1 hl0
    have HT := Lib.hid ht; clear ht
    subst hv
    go_enter Tryz.func72, Tryz.ntmps72
    go_wp2_with fail
    refine (leafOf_any s w hs HT.out).mono ?_
    rintro e w1 ⟨ka, na, sa, rfl, hlf, hsa, hb⟩
    have HLF := Lib.hid hlf; clear hlf
    have HC := Lib.hid (StkAt.add (g := g) (cap := cap) HL0.out (keep_own HO.out hb) ((HX.out.keep fun b hq _ h2 => ⟨hb.block b h2, hq⟩ : StX w1 lo _ H w.heap.size _ xs)) hb.size rfl HW.out (ka := ka) (na := na) (sa := sa) (aa := none) (am := 0) (ac := 0) (La := w.heap.size) (Ra := w.heap.size) (axs := []) (by unfold maxLen; omega) (Nat.le_refl _) (Nat.le_refl _) hb.size (OwnR.nil _ _ _ _ _ _ _))
    have HB : Hid (Left lo0 lo (.slice (some ⟨g, 0, none⟩) (r.length + 1) cap) w w1) := Lib.hid (Left.of hb (by have := HO.out.lt g rfl; omega))
    clear hb
    go_wp2_with fail
    refine HC.out.mono ?_
    rintro e w2 ⟨rfl, hst2, hb2⟩
    have HS2 := Lib.hid hst2; clear hst2
    have HB2 := Lib.hid (HB.out.trans hb2); clear hb2
    go_wp2
    go_end0
    exact ⟨rfl, by rw [addS_some HN.out, HLF.out]; exact HS2.out, HB2.out⟩
end Go.Proofs.YtidbokheeieifaaGreatDoor
namespace Go.Proofs.YtidbokheeieifaaGreatDoor
open Go.RowKit

theorem results_ctR {fn : Func} {a b : Tmp} {t : TypeId} {tmps : Array Value} {ad : Addr} (h : fn.results = #[.cell a t, .tmp b]) (ha : tmps.getD a undef = .pointer (some ad)) (P : Program) (w : World) {x : Value}
    (hx : (loadVar t ad).run P w = .ok x w) : (results fn tmps).run P w = .ok (.tuple #[x, tmps.getD b undef]) w := by
  have h2 : tmps[a]?.getD undef = .pointer (some ad) := by rw [← ha]; simp
  simp [results, h, h2, asAddr, hx, Result.andThen]

theorem not_iter {w : World} {lo n g cap k : Nat} {e : TypeId} {xs : List Value} {s : ByteArray} {pos : Nat} (ho : w.ownsRow lo e 4 (.slice (some ⟨g, 0, none⟩) n cap) n xs) (hk : w.heap[k]? = some (.stringIter s pos)) : g ≠ k := by
  rintro rfl
  rcases ho.2 with ⟨e1, _⟩ | ⟨g', c, cur, e1, _, hg, _⟩
  · cases e1
  · cases e1
    rw [hk] at hg
    cases hg

theorem StkAt.iterAt {lo0 lo k : Nat} {v : Value} {p : T} {r : List T} {w : World} {s : ByteArray} {pos : Nat} (h : StkAt lo0 lo v (p :: r) w) (hk : w.heap[k]? = some (.stringIter s pos)) (hlo : k < lo) (pos' : Nat) : StkAt lo0 lo v (p :: r) (w.iterAt k s pos') := by
  obtain ⟨g, cap, rfl, _, _⟩ := h.form
  obtain ⟨H, xs, ho, hx⟩ := h
  have hne := not_iter ho hk
  refine ⟨H, xs, row_keep ho (Lib.iterAt_other _ _ _ _ _ hne), ?_⟩
  rw [Lib.iterAt_size]
  exact hx.keep fun b hb h1 _ => ⟨Lib.iterAt_other _ _ _ _ _ (by omega), hb⟩

theorem Left.iter {lo0 lo k : Nat} {v : Value} {p : T} {r : List T} {w w' : World} {s : ByteArray} {pos : Nat} (h : Left lo0 lo v w w') (hst : StkAt lo0 lo v (p :: r) w) (hk : w.heap[k]? = some (.stringIter s pos)) (hlo : k < lo) : w'.heap[k]? = some (.stringIter s pos) := by
  obtain ⟨g, cap, rfl, _, _⟩ := hst.form
  obtain ⟨H, xs, ho, hx⟩ := hst
  have hne := not_iter ho hk
  rw [h.2 k hlo (Array.getElem?_eq_some_iff.1 hk).1 (fun e => hne (by simpa [Value.ownBlock] using e.symm))]
  exact hk

/-- Where the scan begins. -/
theorem stk_startR (w : World) (s : ByteArray) : StkAt (w.heap.size + 1) (w.heap.size + 3) (.slice (some ⟨w.heap.size + 1, 0, none⟩) 1 1) [.node 0 0 ByteArray.empty []] (((w.alloc zRow).alloc zRow).iter s 0) ∧
    (((w.alloc zRow).alloc zRow).iter s 0).heap[w.heap.size + 2]? = some (.stringIter s 0) ∧ Below w.heap.size w (((w.alloc zRow).alloc zRow).iter s 0) ∧ (((w.alloc zRow).alloc zRow).iter s 0).heap[w.heap.size]? = some zRow := by
  have hsz : (w.alloc zRow).heap.size = w.heap.size + 1 := by simp
  have hsz2 : ((w.alloc zRow).alloc zRow).heap.size = w.heap.size + 2 := by simp
  have b1 : Below (w.alloc zRow).heap.size (w.alloc zRow) (((w.alloc zRow).alloc zRow).iter s 0) := (bel_al _ _).alloc (by simp) _
  have b2 : Below ((w.alloc zRow).alloc zRow).heap.size ((w.alloc zRow).alloc zRow) (((w.alloc zRow).alloc zRow).iter s 0) := bel_al _ _
  refine ⟨⟨0, zs4, ?_, fun _ => .slice none 0 0, fun _ => w.heap.size + 3, fun _ => w.heap.size + 3, fun i k n nm txs hi => ?_, fun i j h1 h2 => by simp at h2; omega⟩, ?_, (bel_al w zRow).trans (b1.mono (by simp)), (b1.block _ (by simp)).trans (heap_new w zRow rfl)⟩
  · have := World.ownsRow_lit (base := w.heap.size + 1) (size := 4) (e := 26) (w.alloc zRow) #[.int .i64 0, .int .i64 0, .string ⟨#[]⟩, .slice none 0 0] 1 (by rw [hsz]; exact Nat.le_refl _) (by decide) rfl
    rw [hsz] at this
    exact keep_own this b2
  · match i, hi with
    | 0, hi =>
      simp at hi
      obtain ⟨rfl, rfl, rfl, rfl⟩ := hi
      exact ⟨⟨Nat.zero_le _, rfl, rfl, rfl⟩, rfl, fun _ => rfl, ⟨Nat.le_refl _, Nat.le_refl _, by show _ ≤ (((w.alloc zRow).alloc zRow).alloc _).heap.size; simp⟩, rfl, none, 0, rfl⟩
    | i + 1, hi => simp at hi
  · have := World.iter_heap ((w.alloc zRow).alloc zRow) s 0
    rw [hsz2] at this
    exact this

/-- An open operator is put on the stack. -/
theorem StkAt.push {lo0 lo g cap g3 c3 : Nat} {H : Nat} {p : T} {r : List T} {xs : List Value} {w w3 : World} {o : Obj} {sym : ByteArray} (ho : w.ownsRow lo0 26 4 (.slice (some ⟨g, 0, none⟩) (r.length + 1) cap) (r.length + 1) xs) (hx : StX w lo (.slice (some ⟨g, 0, none⟩) (r.length + 1) cap) H w.heap.size (p :: r).reverse xs) (hlo : lo ≤ w.heap.size) (hs : sym.size ≤ maxLen)
    (ho3 : w3.ownsRow lo0 26 4 (.slice (some ⟨g3, 0, none⟩) (r.length + 1 + 1) c3) (r.length + 1 + 1) (xs ++ [.int .i64 2, .int .i64 0, .string sym, .slice none 0 0]))
    (hg3 : (w.alloc o).grownBy w3 (Value.slice (some ⟨g, 0, none⟩) (r.length + 1) cap).ownBlock) (ha3 : (Value.slice (some ⟨g, 0, none⟩) (r.length + 1) cap).ownBlock = some g3 ∨ g3 = (w.alloc o).heap.size) :
    StkAt lo0 lo (.slice (some ⟨g3, 0, none⟩) (r.length + 1 + 1) c3) (.node 2 0 sym [] :: p :: r) w3 := by
  have hg := grew_app (n := r.length + 1 + 1) (cap := c3) hg3 ha3
  refine ⟨H, _, ho3, ?_⟩
  rw [List.reverse_cons]
  exact hx.push (by have := ho.1; simpa using this) hlo hg hs

/-- The topmost one is taken off, and becomes an argument of the next. -/
theorem StkAt.pop {lo0 lo g cap : Nat} {k n : Int} {nm : ByteArray} {txs r : List T} {y : T} {w : World} (h0 : lo0 ≤ lo) (h : StkAt lo0 lo (.slice (some ⟨g, 0, none⟩) (r.length + 1 + 1) cap) (.node k n nm txs :: y :: r) w) (hw : wL (.node k n nm txs :: y :: r) ≤ 100000) :
    ∃ a m c, (w.cell? ⟨g, (r.length + 1) * 4, none⟩ = some (.int .i64 k) ∧ w.cell? ⟨g, (r.length + 1) * 4 + 1, none⟩ = some (.int .i64 n) ∧ w.cell? ⟨g, (r.length + 1) * 4 + 2, none⟩ = some (.string nm) ∧ w.cell? ⟨g, (r.length + 1) * 4 + 3, none⟩ = some (.slice a m c)) ∧
      ∀ w1, Below w.heap.size w w1 → Calls Tryz.prog 73 #[.slice (some ⟨g, 0, none⟩) (r.length + 1) cap, tv k n nm (.slice a m c)] w1
        (fun e w' => e = .returned (.tuple #[]) ∧ StkAt lo0 lo (.slice (some ⟨g, 0, none⟩) (r.length + 1) cap) (addA (.node k n nm txs) (y :: r)) w' ∧ Left lo0 lo (.slice (some ⟨g, 0, none⟩) (r.length + 1) cap) w1 w') := by
  obtain ⟨H, xs, ho, hx⟩ := h
  rw [List.reverse_cons] at hx
  have hl : (y :: r).reverse.length = r.length + 1 := by simp
  obtain ⟨u, La, Ra, ⟨hnm, x0, x1, x2, x3⟩, l1, l2, l3, hown, hxp⟩ := hx.pop (v' := .slice (some ⟨g, 0, none⟩) (r.length + 1) cap) rfl
  rw [hl] at x0 x1 x2 x3 hxp
  obtain ⟨a, c, rfl⟩ := hown.slice
  have hxl : xs.length = (r.length + 1 + 1) * 4 := ho.1
  refine ⟨a, txs.length, c, ⟨?_, ?_, ?_, ?_⟩, fun w1 hb => ?_⟩
  · rw [ho.cellAt ((r.length + 1) * 4) (by omega), x0]
  · rw [ho.cellAt ((r.length + 1) * 4 + 1) (by omega), x1]
  · rw [ho.cellAt ((r.length + 1) * 4 + 2) (by omega), x2]
  · rw [ho.cellAt ((r.length + 1) * 4 + 3) (by omega), x3]
  · obtain ⟨ky, ny, nmy, ty⟩ := y
    have hb2 : ∀ b, b < w.heap.size → w1.heap[b]? = w.heap[b]? := fun b h => hb.block b h
    have hpop : w.ownsRow lo0 26 4 (.slice (some ⟨g, 0, none⟩) (r.length + 1) cap) (r.length + 1) (xs.take ((r.length + 1) * 4)) := by
      refine ownsRow_pop (n := r.length + 1) (last := xs.drop ((r.length + 1) * 4)) (by rw [List.length_take]; omega) ?_
      rw [List.take_append_drop]
      exact ho
    have hwl : r.length ≤ 100000 ∧ ty.length ≤ 100000 := by
      simp only [wL, wS, List.map_cons, List.sum_cons, List.length_cons] at hw
      rw [wT_node, wT_node] at hw
      omega
    rw [List.reverse_cons] at hxp
    exact StkAt.add h0 (keep_own hpop hb) ((hxp.keep fun b hq _ h2 => ⟨hb2 b (by omega), hq⟩)) (La := La) (Ra := Ra) (by have := hb.size; omega) rfl hwl hnm (Nat.le_refl _) l2 (by have := hb.size; omega) (hown.keep fun b hq _ h2 => ⟨hb2 b (by omega), hq⟩)

/-- The last one, and what it holds. -/
theorem StkAt.last {lo0 lo g cap : Nat} {k n : Int} {nm : ByteArray} {txs : List T} {w : World} (h : StkAt lo0 lo (.slice (some ⟨g, 0, none⟩) 1 cap) [.node k n nm txs] w) :
    ∃ a c, w.cell? ⟨g, 3, none⟩ = some (.slice a txs.length c) ∧ ∀ k2 n2 nm2 txs2, txs = [.node k2 n2 nm2 txs2] → ∃ g1 a2 m2 c2 H, a = some ⟨g1, 0, none⟩ ∧ nm2.size ≤ maxLen ∧
      (w.cell? ⟨g1, 0, none⟩ = some (.int .i64 k2) ∧ w.cell? ⟨g1, 1, none⟩ = some (.int .i64 n2) ∧ w.cell? ⟨g1, 2, none⟩ = some (.string nm2) ∧ w.cell? ⟨g1, 3, none⟩ = some (.slice a2 m2 c2)) ∧ OwnR (fun _ => True) w H lo w.heap.size (.slice a2 m2 c2) txs2 := by
  obtain ⟨H, xs, ho, U, L, R, hx, hd⟩ := h
  obtain ⟨_, x3, _, hl, hown⟩ := hx 0 k n nm txs rfl
  obtain ⟨a, c, hU⟩ := hown.slice
  refine ⟨a, c, by rw [ho.cellAt 3 (by have := ho.1; simp at this ⊢)]; rw [← hU]; exact x3, fun k2 n2 nm2 txs2 htx => ?_⟩
  subst htx
  cases H with
  | zero => exact absurd hown.1 (by simp)
  | succ H =>
    obtain ⟨a', c', e, _, hc⟩ := hown
    obtain ⟨g1, ys, V, L', R', rfl, _, g0, gh, how, hxx, _⟩ := hc.resolve_left (by simp)
    rw [hU] at e
    simp only [Value.slice.injEq] at e
    obtain ⟨rfl, _, rfl⟩ := e
    obtain ⟨⟨hs2, y0, y1, y2⟩, y3, l1, l2, _, hr⟩ := hxx 0 k2 n2 nm2 txs2 rfl
    obtain ⟨a2, c2, hV⟩ := hr.slice
    rw [hV] at y3 hr
    have hyl : ys.length = 1 * 4 := how.1
    rw [hU] at how
    refine ⟨g1, a2, txs2.length, c2, H, rfl, hs2, ⟨?_, ?_, ?_, ?_⟩, (hr.keep fun b _ _ _ => ⟨rfl, trivial⟩).wide (by omega) (by omega)⟩
    · rw [how.cellAt 0 (by simp)]; exact y0
    · rw [how.cellAt 1 (by simp)]; exact y1
    · rw [how.cellAt 2 (by simp)]; exact y2
    · rw [how.cellAt 3 (by simp)]; exact y3
end Go.Proofs.YtidbokheeieifaaGreatDoor
namespace Go.Proofs.YtidbokheeieifaaGreatDoor
open Go.RowKit

theorem get_mid (s : ByteArray) (i : Nat) (h : i < s.size) : s.get! i = s[i] := by
  simp [ByteArray.get!, getElem!_pos, h]
  rfl

/-- A rune at place i: a byte below 128 alone, or bytes from 128 on. -/
theorem dec_cases (s : ByteArray) (i : Nat) (h : i < s.size) : ((s[i].toNat < 128) ∧ Utf8.decode s i = (s[i].toNat, 1)) ∨
    (128 ≤ s[i].toNat ∧ 128 ≤ (Utf8.decode s i).1 ∧ 1 ≤ (Utf8.decode s i).2 ∧ i + (Utf8.decode s i).2 ≤ s.size ∧ ∀ j, j < (Utf8.decode s i).2 → 128 ≤ (s.get! (i + j)).toNat) := by
  by_cases ha : s[i].toNat < 128
  · exact Or.inl ⟨ha, decode_ascii s i h ha⟩
  · have hh := decode_high s i h (by omega)
    have hb0 : 128 ≤ (s.get! i).toNat := by rw [get_mid s i h]; omega
    have key : ∀ n b0 b1 b2 b3 : Nat, 1 ≤ n → 128 ≤ b0 → (Lib.decodeN n b0 b1 b2 b3).2 ≤ n ∧ (1 < (Lib.decodeN n b0 b1 b2 b3).2 → 128 ≤ b1) ∧ (2 < (Lib.decodeN n b0 b1 b2 b3).2 → 128 ≤ b2) ∧ (3 < (Lib.decodeN n b0 b1 b2 b3).2 → 128 ≤ b3) ∧ (Lib.decodeN n b0 b1 b2 b3).2 ≤ 4 := by
      intro n b0 b1 b2 b3 hn hb
      unfold Lib.decodeN
      repeat' split
      all_goals (refine ⟨?_, ?_, ?_, ?_, ?_⟩ <;> (try intro _) <;> simp only at * <;> omega)
    have hk := key (s.size - i) (s.get! i).toNat (s.get! (i + 1)).toNat (s.get! (i + 2)).toNat (s.get! (i + 3)).toNat (by omega) hb0
    rw [← Lib.decode_at] at hk
    obtain ⟨k0, k1, k2, k3, k4⟩ := hk
    refine Or.inr ⟨by omega, hh.1, hh.2, by omega, fun j hj => ?_⟩
    rcases (by omega : j = 0 ∨ j = 1 ∨ j = 2 ∨ j = 3) with rfl | rfl | rfl | rfl
    · exact hb0
    · exact k1 (by omega)
    · exact k2 (by omega)
    · exact k3 (by omega)

theorem runR_snoc (l : List UInt8) (c : UInt8) (s0 : List T × List UInt8) : runR (l ++ [c]) s0 = (runR l s0).bind (fun s => stepR s c) := by
  rw [runR_append]
  cases runR l s0 with
  | none => rfl
  | some s => exact runR_one c s

/-- The bytes from a to b. -/
def seg (L : List UInt8) (a b : Nat) : List UInt8 := (L.drop a).take (b - a)
theorem seg_nil (L : List UInt8) (a : Nat) : seg L a a = [] := by simp [seg]
theorem seg_len {L : List UInt8} {a b : Nat} (h : a ≤ b) (hb : b ≤ L.length) : (seg L a b).length = b - a := by
  simp [seg, List.length_take, List.length_drop]; omega
theorem seg_app {L : List UInt8} {a b c : Nat} (h1 : a ≤ b) (h2 : b ≤ c) : seg L a b ++ seg L b c = seg L a c := by
  unfold seg
  have e : c - a = (b - a) + (c - b) := by omega
  rw [e, List.take_add, List.drop_drop, show a + (b - a) = b by omega]
theorem take_seg (L : List UInt8) {a b : Nat} (h : a ≤ b) : L.take b = L.take a ++ seg L a b := by
  unfold seg
  conv => lhs; rw [show b = a + (b - a) by omega, List.take_add]
theorem seg_one {L : List UInt8} {a : Nat} {c : UInt8} (h : L[a]? = some c) : seg L a (a + 1) = [c] := by
  unfold seg
  have hl := (List.getElem?_eq_some_iff.1 h).1
  rw [show a + 1 - a = 1 by omega, List.drop_eq_getElem_cons hl]
  rw [List.getElem?_eq_getElem hl] at h
  simp [Option.some.inj h]
theorem seg_end (L : List UInt8) (a : Nat) : seg L a L.length = L.drop a := by unfold seg; rw [List.take_of_length_le]; simp
theorem extract_seg (s : ByteArray) (a b : Nat) : (s.extract a b).data.toList = seg s.data.toList a b := by
  simp [ByteArray.data_extract, seg, List.extract_eq_take_drop]

/-- The scan came to place pos; the symbol at hand began at start; st is the stack. -/
def RdAt (L : List UInt8) (pos start : Nat) (st : List T) : Prop :=
  start ≤ pos ∧ pos ≤ L.length ∧ st ≠ [] ∧ runR (L.take pos) ([baseT], []) = some (st, seg L start pos) ∧ wL st + 2 * (pos - start) ≤ 1 + 3 * pos

theorem RdAt.init (L : List UInt8) : RdAt L 0 0 [baseT] := ⟨Nat.le_refl _, Nat.zero_le _, by simp, by simp [seg, runR], by simp [wL, wS, wT_node, ByteArray.size]⟩
theorem RdAt.plain {L : List UInt8} {pos start w : Nat} {st : List T} (h : RdAt L pos start st) (hw : pos + w ≤ L.length) (hp : ∀ c ∈ seg L pos (pos + w), ¬ Special c) : RdAt L (pos + w) start st := by
  obtain ⟨h1, h2, h3, h4, h5⟩ := h
  refine ⟨by omega, hw, h3, ?_, by omega⟩
  rw [take_seg L (Nat.le_add_right pos w), runR_append, h4]
  show runR _ (_, _) = _
  rw [runR_plain _ hp, seg_app h1 (Nat.le_add_right pos w)]
theorem RdAt.step {L : List UInt8} {pos start : Nat} {st : List T} (h : RdAt L pos start st) {c : UInt8} (hc : L[pos]? = some c) : runR (L.take (pos + 1)) ([baseT], []) = stepR (st, seg L start pos) c := by
  rw [take_seg L (Nat.le_succ pos), seg_one hc, runR_snoc, h.2.2.2.1]; rfl
theorem RdAt.opens {L : List UInt8} {pos start : Nat} {st : List T} (h : RdAt L pos start st) (hc : L[pos]? = some 40) : RdAt L (pos + 1) (pos + 1) (.node 2 0 ⟨(seg L start pos).toArray⟩ [] :: st) := by
  have hl := (List.getElem?_eq_some_iff.1 hc).1
  have hsl := seg_len h.1 h.2.1
  refine ⟨Nat.le_refl _, hl, by simp, ?_, ?_⟩
  · rw [h.step hc, seg_nil]; unfold stepR; rw [if_pos rfl]
  · have h5 := h.2.2.2.2
    have h1 := h.1
    simp only [wL, wS, List.map_cons, List.sum_cons, List.length_cons] at *
    rw [wT_node]
    simp only [wS, List.map_nil, List.sum_nil, List.length_nil, ByteArray.size, List.size_toArray] at *
    omega
theorem RdAt.cons {L : List UInt8} {pos start : Nat} {st : List T} (h : RdAt L pos start st) : ∃ p r, st = p :: r := by
  cases st with
  | nil => exact absurd rfl h.2.2.1
  | cons p r => exact ⟨p, r, rfl⟩
theorem RdAt.sym {L : List UInt8} {pos start : Nat} {p : T} {r : List T} (h : RdAt L pos start (p :: r)) : wL (addS (seg L start pos) (p :: r)) ≤ 1 + 3 * pos := by
  have h1 := addS_w (seg L start pos) p r
  rw [seg_len h.1 h.2.1] at h1
  have := h.2.2.2.2
  omega
theorem RdAt.comma {L : List UInt8} {pos start : Nat} {st : List T} (h : RdAt L pos start st) {c : UInt8} (hc : L[pos]? = some c) (h2 : c = 44 ∨ c = 32) : RdAt L (pos + 1) (pos + 1) (addS (seg L start pos) st) := by
  have hl := (List.getElem?_eq_some_iff.1 hc).1
  obtain ⟨p, r, rfl⟩ := h.cons
  obtain ⟨q, hq⟩ := addS_cons (seg L start pos) p r
  refine ⟨Nat.le_refl _, hl, by rw [hq]; simp, ?_, by have := h.sym; omega⟩
  rw [h.step hc, seg_nil]; unfold stepR; rw [if_neg (by rcases h2 with rfl | rfl <;> decide), if_pos h2]
theorem RdAt.close {L : List UInt8} {pos start : Nat} {st : List T} (h : RdAt L pos start st) (hc : L[pos]? = some 41) {x y : T} {r : List T} (hs : addS (seg L start pos) st = x :: y :: r) : RdAt L (pos + 1) (pos + 1) (addA x (y :: r)) := by
  have hl := (List.getElem?_eq_some_iff.1 hc).1
  obtain ⟨p, q, rfl⟩ := h.cons
  have hw := h.sym
  rw [hs] at hw
  have hw2 := addA_w x y r
  refine ⟨Nat.le_refl _, hl, ?_, ?_, ?_⟩
  · obtain ⟨k, n, s, xs⟩ := y; simp [addA]
  · rw [h.step hc, seg_nil]; unfold stepR; rw [if_neg (by decide), if_neg (by decide), if_pos rfl, hs]
  · have e : wL (x :: y :: r) = wL (y :: r) + wT x + 1 := by simp only [wL, wS, List.map_cons, List.sum_cons, List.length_cons]; omega
    omega
theorem RdAt.stuck {L : List UInt8} {pos start : Nat} {st : List T} (h : RdAt L pos start st) (hc : L[pos]? = some 41) {x : T} (hs : addS (seg L start pos) st = [x]) : readR L = none := by
  have hl := (List.getElem?_eq_some_iff.1 hc).1
  have h1 := h.step hc
  have h2 : stepR (st, seg L start pos) 41 = none := by unfold stepR; rw [if_neg (by decide), if_neg (by decide), if_pos rfl, hs]
  rw [h2] at h1
  unfold readR
  have e : L = L.take (pos + 1) ++ L.drop (pos + 1) := (List.take_append_drop _ _).symm
  rw [e, runR_append, h1]
  rfl
theorem RdAt.done {L : List UInt8} {start : Nat} {st : List T} (h : RdAt L L.length start st) : readR L = endR (st, seg L start L.length) := by
  have h4 := h.2.2.2.1
  rw [List.take_length] at h4
  unfold readR
  rw [h4]
  rfl
theorem endR_one {st : List T} {l : List UInt8} {k n : Int} {s : ByteArray} {t : T} (h : addS l st = [.node k n s [t]]) : endR (st, l) = some t := by unfold endR; rw [h]
theorem endR_no {st : List T} {l : List UInt8} (h : ∀ k n s t, addS l st ≠ [.node k n s [t]]) : endR (st, l) = none := by
  unfold endR
  split
  · rename_i k n s t e; exact absurd e (h k n s t)
  · rfl
end Go.Proofs.YtidbokheeieifaaGreatDoor
