/-
  What the model's reader gives, as a relation: a valid term's representation is read as that term. No walk.
-/
import Derived.Test.YtooiiomfahomjaaGreatDoorQ12
import Derived.Test.YtooiiomfahomjaaGreatDoorQ5
namespace Go.Proofs.YtooiiomfahomjaaGreatDoor
open Go.RowKit

theorem dT_pos (t : T) : 1 ≤ dT t := by obtain ⟨k, n, s, xs⟩ := t; rw [dT_node]; omega
theorem foldl_ge : ∀ (l : List Nat) (a : Nat), a ≤ l.foldl max a ∧ ∀ x ∈ l, x ≤ l.foldl max a
  | [], a => ⟨Nat.le_refl _, by simp⟩
  | y :: l, a => by
    obtain ⟨h1, h2⟩ := foldl_ge l (max a y)
    rw [List.foldl_cons]
    refine ⟨by omega, fun x hx => ?_⟩
    rcases List.mem_cons.1 hx with rfl | hx
    · omega
    · exact h2 x hx
theorem dT_mem (ys : List T) (y : T) (h : y ∈ ys) : dT y ≤ dS ys := (foldl_ge (ys.map dT) 0).2 _ (List.mem_map.2 ⟨y, h, rfl⟩)

/-- What follows a word: nothing, or a special byte. -/
def SpStart (r : List UInt8) : Prop := r = [] ∨ ∃ c r', r = c :: r' ∧ Special c
/-- What follows a term. -/
def Stop (r : List UInt8) : Prop := r = [] ∨ ∃ c r', r = c :: r' ∧ (c = 41 ∨ c = 44)
theorem Stop.sp {r : List UInt8} (h : Stop r) : SpStart r := by
  rcases h with h | ⟨c, r', h, hc⟩
  · exact Or.inl h
  · exact Or.inr ⟨c, r', h, by unfold Special; rcases hc with h | h <;> simp [h]⟩
theorem scan_unique : ∀ {l l' r r' : List UInt8}, l ++ r = l' ++ r' → (∀ c ∈ l, ¬ Special c) → SpStart r → (∀ c ∈ l', ¬ Special c) → SpStart r' → l = l' ∧ r = r'
  | [], [], _, _, h, _, _, _, _ => ⟨rfl, h⟩
  | [], c :: l', r, r', h, _, hr, hl', _ => by
    rcases hr with rfl | ⟨x, r'', rfl, hx⟩
    · simp at h
    · simp at h; exact absurd (h.1 ▸ hx) (hl' c (by simp))
  | c :: l, [], r, r', h, hl, _, _, hr' => by
    rcases hr' with rfl | ⟨x, r'', rfl, hx⟩
    · simp at h
    · simp at h; exact absurd (h.1 ▸ hx) (hl c (by simp))
  | c :: l, c' :: l', r, r', h, hl, hr, hl', hr' => by
    simp only [List.cons_append, List.cons.injEq] at h
    obtain ⟨rfl, h⟩ := h
    obtain ⟨rfl, rfl⟩ := scan_unique h (fun x hx => hl x (by simp [hx])) hr (fun x hx => hl' x (by simp [hx])) hr'
    exact ⟨rfl, rfl⟩

open Classical in
/-- What a word alone stands for. -/
noncomputable def leafS (l : List UInt8) : T :=
  if Nm 65 90 ⟨l.toArray⟩ then .node 1 0 ⟨l.toArray⟩ [] else match l with
  | [c] => if 48 ≤ c.toNat ∧ c.toNat ≤ 57 then .node 3 ((c.toNat : Int) - 48) ByteArray.empty [] else .node 2 0 ⟨[c].toArray⟩ []
  | l => .node 2 0 ⟨l.toArray⟩ []
theorem leafS_var {l : List UInt8} (h : Nm 65 90 ⟨l.toArray⟩) : leafS l = .node 1 0 ⟨l.toArray⟩ [] := by unfold leafS; rw [if_pos h]
theorem leafS_dig {c : UInt8} (h : ¬ Nm 65 90 ⟨[c].toArray⟩) (h2 : 48 ≤ c.toNat ∧ c.toNat ≤ 57) : leafS [c] = .node 3 ((c.toNat : Int) - 48) ByteArray.empty [] := by
  unfold leafS; rw [if_neg h]; simp only; rw [if_pos h2]
theorem leafS_app {l : List UInt8} (h : ¬ Nm 65 90 ⟨l.toArray⟩) (h2 : ∀ c, l = [c] → ¬ (48 ≤ c.toNat ∧ c.toNat ≤ 57)) : leafS l = .node 2 0 ⟨l.toArray⟩ [] := by
  unfold leafS; rw [if_neg h]
  match l with
  | [] => rfl
  | [c] => simp only; rw [if_neg (h2 c rfl)]
  | _ :: _ :: _ => rfl
theorem leafS_form (l : List UInt8) : ∃ k n s, leafS l = .node k n s [] ∧ s.size ≤ l.length := by
  by_cases h : Nm 65 90 ⟨l.toArray⟩
  · exact ⟨_, _, _, leafS_var h, by simp [ByteArray.size]⟩
  · by_cases h2 : ∃ c, l = [c] ∧ (48 ≤ c.toNat ∧ c.toNat ≤ 57)
    · obtain ⟨c, rfl, hc⟩ := h2
      exact ⟨_, _, _, leafS_dig h hc, by simp⟩
    · exact ⟨_, _, _, leafS_app h (fun c e hc => h2 ⟨c, e, hc⟩), by simp [ByteArray.size]⟩
theorem dig3_toNat {n : Int} (h0 : 0 ≤ n) (h1 : n ≤ 3) : (UInt8.ofNat (48 + n.toNat)).toNat = 48 + n.toNat := by
  rw [UInt8.toNat_ofNat']; omega
/-- A leaf's word. -/
theorem leafS_ok {k n : Int} {s : ByteArray} (h : NodeOk k n s 0) : leafS (textL (.node k n s [])) = .node k n s [] := by
  rw [textL_node]
  rcases h with ⟨rfl, hs, rfl, _⟩ | ⟨rfl, hs, rfl⟩ | ⟨rfl, hs, h0, h1, _⟩
  · rw [if_neg (by decide), if_pos (by rfl), leafS_var (by rw [mk_data]; exact hs), mk_data]
  · rw [if_neg (by decide), if_pos (by rfl)]
    exact (leafS_app (by rw [mk_data]; exact fun h => nm_apart s hs h) (fun c e hc => by
      have h1 := hs.2.2.1
      have h2 := hs.1
      rw [byteAt_lt s 0 (by omega)] at h1
      have : s[0] = c := by
        have : s.data.toList[0]? = some c := by rw [e]; rfl
        rw [List.getElem?_eq_getElem (by simpa using (by omega : 0 < s.size))] at this
        show s.data[0] = c
        simpa using this
      rw [this] at h1
      omega)).trans (by rw [mk_data])
  · rw [if_pos rfl, itoa_word h0 h1, leafS_dig (fun h => by
      have h2 := h.2.2.1
      have h3 : byteAt (ByteArray.mk [UInt8.ofNat (48 + n.toNat)].toArray) 0 = ((UInt8.ofNat (48 + n.toNat)).toNat : Int) := byteAt_lt (ByteArray.mk [UInt8.ofNat (48 + n.toNat)].toArray) 0 Nat.zero_lt_one
      rw [h3, dig3_toNat h0 h1] at h2
      omega) (by rw [dig3_toNat h0 h1]; omega), dig3_toNat h0 h1]
    have : s = ByteArray.empty := by
      apply ByteArray.ext
      exact Array.eq_empty_of_size_eq_zero hs
    rw [this]
    congr 1
    omega
/-- The word of a node with arguments. -/
theorem leafS_head {k n : Int} {s : ByteArray} {m : Nat} (h : NodeOk k n s m) (hm : m ≠ 0) : k = 2 ∧ n = 0 ∧ leafS s.data.toList = .node 2 0 s [] ∧ ∀ c ∈ s.data.toList, ¬ Special c := by
  have hk : k = 2 ∧ Nm 97 122 s ∧ n = 0 := by
    rcases h with ⟨_, _, _, h⟩ | h | ⟨_, _, _, _, h⟩
    · exact absurd h hm
    · exact h
    · exact absurd h hm
  obtain ⟨rfl, hs, rfl⟩ := hk
  have h0 : NodeOk 2 0 s 0 := Or.inr (Or.inl ⟨rfl, hs, rfl⟩)
  have h1 := leafS_ok h0
  have e : textL (.node 2 0 s []) = s.data.toList := by rw [textL_node, if_neg (by decide), if_pos (by rfl)]
  rw [e] at h1
  exact ⟨rfl, rfl, h1, (name_bytes hs (by decide) (by decide)).2⟩

/-- From at on, at depth d, the reader gave t, came to at2, and says whether it met an error: a valid term's representation is read as that term. -/
def ReadsT (s : List UInt8) (d at1 : Nat) (t : T) (at2 : Nat) (bad : Bool) : Prop :=
  ∀ t0 rest, OkT t0 → d + dT t0 ≤ 17 → cT t0 ≤ 60 → s.drop at1 = textL t0 ++ rest → Stop rest → t = t0 ∧ at2 = at1 + (textL t0).length ∧ bad = false

/-- Some of the arguments were read: ts, up to at2. -/
def ReadsA (s : List UInt8) (d at1 : Nat) (ts : List T) (at2 : Nat) (bad : Bool) : Prop :=
  ∀ ys rest, ys ≠ [] → (∀ y ∈ ys, OkT y ∧ d + 1 + dT y ≤ 17) → cS ys ≤ 59 → s.drop at1 = Lib.join (ys.map textL) [44, 32] ++ [41] ++ rest →
    bad = false ∧ ts = ys.take ts.length ∧ ts.length < ys.length ∧ s.drop at2 = Lib.join ((ys.drop ts.length).map textL) [44, 32] ++ [41] ++ rest ∧ at1 ≤ at2

theorem ReadsA.start (s : List UInt8) (d at1 : Nat) : ReadsA s d at1 [] at1 false := by
  intro ys rest h0 _ _ h
  exact ⟨rfl, rfl, List.length_pos_iff.2 h0, h, Nat.le_refl _⟩

theorem drop_more {l a b : List UInt8} {n : Nat} (h : l.drop n = a ++ b) : l.drop (n + a.length) = b := by
  rw [← List.drop_drop, h, List.drop_left]

/-- A word alone. -/
theorem reads_word {s : List UInt8} {d at1 : Nat} {l r : List UInt8} (h : s.drop at1 = l ++ r) (hl : ∀ c ∈ l, ¬ Special c) (hr : SpStart r) (h40 : ¬ [40] <+: r) : ReadsT s d at1 (leafS l) (at1 + l.length) false := by
  intro t0 rest hok _ _ ht hstop
  obtain ⟨k, n, nm, xs⟩ := t0
  obtain ⟨hn, _⟩ := okT_kid hok
  by_cases hx : xs = []
  · subst hx
    have hb := leaf_ok hn
    obtain ⟨rfl, rfl⟩ := scan_unique (h.symm.trans ht) hl hr hb.2.1 hstop.sp
    exact ⟨leafS_ok hn, rfl, rfl⟩
  · have hne : xs.length ≠ 0 := fun e => hx (List.eq_nil_of_length_eq_zero e)
    obtain ⟨rfl, rfl, _, hb⟩ := leafS_head hn hne
    have e : textL (.node 2 0 nm xs) ++ rest = nm.data.toList ++ ([40] ++ (Lib.join (xs.map textL) [44, 32] ++ [41] ++ rest)) := by
      rw [textL_node, if_neg (by decide), if_neg hne]; simp
    rw [e] at ht
    obtain ⟨_, rfl⟩ := scan_unique (h.symm.trans ht) hl hr hb (Or.inr ⟨40, _, rfl, Or.inl rfl⟩)
    exact absurd ⟨_, rfl⟩ h40

/-- The arguments of a term that is valid lie behind its word and a bracket. -/
theorem reads_args {s : List UInt8} {d at1 : Nat} {l r : List UInt8} (h : s.drop at1 = l ++ r) (hl : ∀ c ∈ l, ¬ Special c) (hr : SpStart r) (h40 : [40] <+: r) {t0 : T} {rest : List UInt8} (hok : OkT t0) (hd : d + dT t0 ≤ 17) (hc : cT t0 ≤ 60)
    (ht : s.drop at1 = textL t0 ++ rest) (hstop : Stop rest) : ∃ nm ys, t0 = .node 2 0 nm ys ∧ leafS l = .node 2 0 nm [] ∧ ys ≠ [] ∧ (∀ y ∈ ys, OkT y ∧ d + 1 + dT y ≤ 17) ∧ cS ys ≤ 59 ∧
      s.drop (at1 + l.length + 1) = Lib.join (ys.map textL) [44, 32] ++ [41] ++ rest ∧ (textL t0).length = l.length + 1 + (Lib.join (ys.map textL) [44, 32]).length + 1 := by
  obtain ⟨k, n, nm, xs⟩ := t0
  obtain ⟨hn, hx⟩ := okT_kid hok
  by_cases hx0 : xs = []
  · subst hx0
    have hb := leaf_ok hn
    obtain ⟨rfl, rfl⟩ := scan_unique (h.symm.trans ht) hl hr hb.2.1 hstop.sp
    obtain ⟨r', h40⟩ := h40
    rcases hstop with e | ⟨c, r2, e, hc⟩
    · rw [e] at h40; simp at h40
    · rw [e] at h40; simp at h40
      rcases hc with e2 | e2 <;> · rw [e2] at h40; simp at h40
  · have hne : xs.length ≠ 0 := fun e => hx0 (List.eq_nil_of_length_eq_zero e)
    obtain ⟨rfl, rfl, h3, hb⟩ := leafS_head hn hne
    have e0 : textL (.node 2 0 nm xs) = nm.data.toList ++ ([40] ++ (Lib.join (xs.map textL) [44, 32] ++ [41])) := by
      rw [textL_node, if_neg (by decide), if_neg hne]; simp
    have e : textL (.node 2 0 nm xs) ++ rest = nm.data.toList ++ ([40] ++ (Lib.join (xs.map textL) [44, 32] ++ [41] ++ rest)) := by
      rw [e0]; simp
    rw [e] at ht
    obtain ⟨rfl, rfl⟩ := scan_unique (h.symm.trans ht) hl hr hb (Or.inr ⟨40, _, rfl, Or.inl rfl⟩)
    refine ⟨nm, xs, rfl, h3, hx0, fun y hy => ⟨hx y hy, ?_⟩, by rw [cT_node] at hc; omega, ?_, by rw [e0]; simp; omega⟩
    · have h1 := dT_mem xs y hy
      rw [dT_node] at hd
      omega
    · have h1 := drop_more ht
      rw [show nm.data.toList.length = nm.data.toList.length from rfl] at h1
      have h2 := drop_more h1
      exact h2

theorem join_head {x : T} {ys : List T} (hy : ys ≠ []) : Lib.join ((x :: ys).map textL) [44, 32] = textL x ++ [44, 32] ++ Lib.join (ys.map textL) [44, 32] := by
  cases ys with
  | nil => exact absurd rfl hy
  | cons y r => simp [Lib.join_cons, Lib.joinTail]
theorem mem_cS {x : T} {ys : List T} (h : x ∈ ys) : cT x ≤ cS ys := cT_mem ys x h

/-- One more argument is read: either it was the last one, or a comma and a space follow. -/
theorem ReadsA.step {s : List UInt8} {d at1 : Nat} {ts : List T} {at2 : Nat} (h : ReadsA s d at1 ts at2 false) {c : T} {at3 : Nat} {bad : Bool} (hc : ReadsT s (d + 1) at2 c at3 bad) {ys : List T} {rest : List UInt8} (h0 : ys ≠ []) (hy : ∀ y ∈ ys, OkT y ∧ d + 1 + dT y ≤ 17) (hcs : cS ys ≤ 59)
    (hs : s.drop at1 = Lib.join (ys.map textL) [44, 32] ++ [41] ++ rest) : bad = false ∧ ts ++ [c] = ys.take (ts.length + 1) ∧ at1 ≤ at3 ∧
      ((ts.length + 1 = ys.length ∧ s.drop at3 = [41] ++ rest) ∨ (ts.length + 1 < ys.length ∧ s.drop at3 = [44, 32] ++ (Lib.join ((ys.drop (ts.length + 1)).map textL) [44, 32] ++ [41] ++ rest))) := by
  obtain ⟨_, ht, hl, hd, hle⟩ := h ys rest h0 hy hcs hs
  obtain ⟨y, hyk⟩ : ∃ y, ys[ts.length]? = some y := ⟨_, List.getElem?_eq_getElem hl⟩
  have hym : y ∈ ys := List.mem_of_getElem? hyk
  have hdr : ys.drop ts.length = y :: ys.drop (ts.length + 1) := by
    rw [List.drop_eq_getElem_cons hl]
    congr 1
    rw [List.getElem?_eq_getElem hl] at hyk
    exact Option.some.inj hyk
  have htk : ts ++ [y] = ys.take (ts.length + 1) := by rw [tk ys _ y hyk, ← ht]
  have hcy := mem_cS hym
  by_cases hlast : ts.length + 1 = ys.length
  · have e : ys.drop (ts.length + 1) = [] := List.drop_eq_nil_of_le (by omega)
    rw [hdr, e] at hd
    have hd2 : s.drop at2 = textL y ++ ([41] ++ rest) := by rw [hd]; simp [Lib.join_one]
    obtain ⟨rfl, rfl, rfl⟩ := hc y ([41] ++ rest) (hy y hym).1 (by have := (hy y hym).2; omega) (by omega) hd2 (Or.inr ⟨41, rest, rfl, Or.inl rfl⟩)
    exact ⟨rfl, htk, by omega, Or.inl ⟨hlast, drop_more hd2⟩⟩
  · have hne : ys.drop (ts.length + 1) ≠ [] := fun e => by have := congrArg List.length e; simp at this; omega
    rw [hdr, join_head hne] at hd
    have hd2 : s.drop at2 = textL y ++ ([44, 32] ++ (Lib.join ((ys.drop (ts.length + 1)).map textL) [44, 32] ++ [41] ++ rest)) := by rw [hd]; simp
    obtain ⟨rfl, rfl, rfl⟩ := hc y _ (hy y hym).1 (by have := (hy y hym).2; omega) (by omega) hd2 (Or.inr ⟨44, _, rfl, Or.inr rfl⟩)
    exact ⟨rfl, htk, by omega, Or.inr ⟨by omega, drop_more hd2⟩⟩

/-- A comma and a space: the next argument. -/
theorem ReadsA.next {s : List UInt8} {d at1 : Nat} {ts : List T} {at2 : Nat} (h : ReadsA s d at1 ts at2 false) {c : T} {at3 : Nat} {bad q : Bool} (hc : ReadsT s (d + 1) at2 c at3 bad) (h41 : ¬ [41] <+: s.drop at3) (hq : q = true ↔ [44, 32] <+: s.drop at3) :
    ReadsA s d at1 (ts ++ [c]) (at3 + 2) (bad || !q) := by
  intro ys rest h0 hy hcs hs
  obtain ⟨rfl, htk, hle, hor⟩ := h.step hc h0 hy hcs hs
  rcases hor with ⟨_, hd⟩ | ⟨hl, hd⟩
  · exact absurd ⟨rest, hd.symm⟩ h41
  · have hq1 : q = true := hq.2 ⟨_, hd.symm⟩
    subst hq1
    refine ⟨rfl, by rw [List.length_append, List.length_singleton]; exact htk, by simpa using hl, ?_, by omega⟩
    rw [List.length_append, List.length_singleton]
    exact drop_more (a := [44, 32]) hd
/-- A bracket: the end of the arguments. -/
theorem ReadsA.close {s : List UInt8} {d at1 at0 : Nat} {ts : List T} {at2 : Nat} {l r : List UInt8} (h : ReadsA s d at1 ts at2 false) {c : T} {at3 : Nat} {bad : Bool} (hc : ReadsT s (d + 1) at2 c at3 bad) (h41 : [41] <+: s.drop at3)
    (hw : s.drop at0 = l ++ r) (hl : ∀ c ∈ l, ¬ Special c) (hr : SpStart r) (h40 : [40] <+: r) (hat : at1 = at0 + l.length + 1) {k n : Int} {nm : ByteArray} (hleaf : leafS l = .node k n nm []) : ReadsT s d at0 (.node k n nm (ts ++ [c])) (at3 + 1) bad := by
  intro t0 rest hok hd hct ht hstop
  obtain ⟨nm', ys, rfl, h3, h0, hy, hcs, hs, hlen⟩ := reads_args hw hl hr h40 hok hd hct ht hstop
  rw [hleaf] at h3
  simp only [T.node.injEq, and_true] at h3
  obtain ⟨rfl, rfl, rfl⟩ := h3
  rw [← hat] at hs
  obtain ⟨rfl, htk, hle, hor⟩ := h.step hc h0 hy hcs hs
  rcases hor with ⟨hl2, hd2⟩ | ⟨_, hd2⟩
  · rw [htk, hl2, List.take_length]
    refine ⟨rfl, ?_, rfl⟩
    have e1 : s.drop at1 = Lib.join (ys.map textL) [44, 32] ++ ([41] ++ rest) := by rw [hs]; simp
    have l1 := congrArg List.length e1
    have l2 := congrArg List.length hd2
    simp only [List.length_drop, List.length_append, List.length_singleton] at l1 l2
    omega
  · obtain ⟨r2, h41⟩ := h41
    rw [hd2] at h41
    simp at h41
/-- An error: no valid term's representation lies there. -/
theorem ReadsA.bad {s : List UInt8} {d at1 at0 : Nat} {ts : List T} {at2 at9 : Nat} {l r : List UInt8} {t : T} {b b' : Bool} (h : ReadsA s d at1 ts at2 b) (hb : b = true ∨ 16 < d ∨ 60 < ts.length) (hw : s.drop at0 = l ++ r) (hl : ∀ c ∈ l, ¬ Special c) (hr : SpStart r) (h40 : [40] <+: r) (hat : at1 = at0 + l.length + 1) : ReadsT s d at0 t at9 b' := by
  intro t0 rest hok hd hct ht hstop
  obtain ⟨nm', ys, rfl, h3, h0, hy, hcs, hs, hlen⟩ := reads_args hw hl hr h40 hok hd hct ht hstop
  rw [← hat] at hs
  obtain ⟨rfl, _, hlt, _⟩ := h ys rest h0 hy hcs hs
  have h1 := len_le_cS ys
  cases ys with
  | nil => exact absurd rfl h0
  | cons y r => have := (hy y (by simp)).2; have h2 := dT_pos y; rcases hb with hb | hb | hb <;> (try omega); simp at hb
end Go.Proofs.YtooiiomfahomjaaGreatDoor
