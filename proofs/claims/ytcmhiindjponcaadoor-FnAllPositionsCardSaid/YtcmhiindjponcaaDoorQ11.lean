/-
  What a round of the range statement leaves: the arguments that are on the stack so far. No walk.
-/
import Derived.Test.YtcmhiindjponcaaDoorQ10
namespace Go.Proofs.YtcmhiindjponcaaDoor
open Go.RowKit Go.Shelf

def En.nd (e : En) : Nd := ⟨e.k, e.n, e.s, e.a, e.m, e.c⟩
def En.key (e : En) : List Int × Nd := (e.ps, e.nd)

theorem back_rev (ds : List Nd) (i : Nat) : (upto (backF ds) ds.length).reverse[i]? = (ds[i]?).map (fun d => (i, d)) := by
  by_cases hi : i < ds.length
  · have h1 : ds.length - 1 - (ds.length - 1 - i) = i := by omega
    have h2 : ds.length - 1 - i < ds.length := by omega
    rw [List.getElem?_reverse (by rw [upto_length]; exact hi), upto_length]
    unfold upto
    rw [List.getElem?_map, List.getElem?_range h2]
    simp only [Option.map_some, backF, h1, List.getElem?_eq_getElem hi, Option.getD_some]
  · rw [List.getElem?_eq_none (by rw [List.length_reverse, upto_length]; omega), List.getElem?_eq_none (by omega)]; rfl

theorem argT_one {t x : T} {p : Int} (h : argT t p = some x) : 1 + cT x ≤ cT t := by
  have h1 := cT_mem (kT t) x (argT_mem h)
  rw [cT_kT t]; omega
theorem sub_len (ps : List Int) (t x : T) (h : subT ps t = some x) : ps.length + cT x ≤ cT t := by
  induction ps generalizing t with
  | nil => cases h; simp
  | cons p ps ih =>
    rw [subT_cons] at h
    cases e : argT t p with
    | none => rw [e] at h; cases h
    | some y =>
      rw [e] at h
      have h1 := ih y h
      have h2 := argT_one e
      rw [List.length_cons]; omega
theorem pos_len {t : T} {p : List Int} (h : p ∈ posT t) : p.length ≤ cT t := by
  obtain ⟨x, hx⟩ := posT_sub t p h
  have := sub_len p t x hx
  omega
theorem posE_length (x : En × T) : (posE x).length = cT x.2 := by
  unfold posE
  rw [List.length_map, posT_length]
theorem one_le_cT (t : T) : 1 ≤ cT t := by rw [cT_kT t]; omega
theorem flat_len : ∀ sp : List (En × T), sp.length ≤ (sp.flatMap posE).length
  | [] => Nat.zero_le _
  | x :: sp => by
    rw [List.flatMap_cons, List.length_append, posE_length, List.length_cons]
    have := flat_len sp
    have := one_le_cT x.2
    omega

/-- A round's world. -/
structure PosR (w : World) (Bo Bh : Nat) (hc : Array Value) (v : Value) (rv : List Value) (done : List (List Int)) (st : List En) (eps : List Int) (dfs : List Deferred) (n0 : Nat) (pre : List (Nat × Nd)) (va : Option Addr) (vc : Nat) (ch : List En) (W : World) : Prop where
  key : ch.map En.key = pre.reverse.map (fun x => (eps ++ [(x.1 : Int)], x.2))
  pst : PosSt Bo w v va vc rv (rv ++ (ch ++ st).map En.av) (done ++ (ch ++ st).map En.ps) (ch ++ st) W
  here : W.heap[Bh]? = some (.cells hc 42 (0, 0))
  off : some Bh ≠ (Value.slice va (ch ++ st).length vc).ownBlock
  marks : Marks w.heap.size dfs W
  size : n0 ≤ W.heap.size
/-- So many are there. -/
theorem PosR.len {w : World} {Bo Bh : Nat} {hc : Array Value} {v : Value} {rv : List Value} {done : List (List Int)} {st : List En} {eps : List Int} {dfs : List Deferred} {n0 : Nat} {pre : List (Nat × Nd)} {va : Option Addr} {vc : Nat} {ch : List En} {W : World} (h : PosR w Bo Bh hc v rv done st eps dfs n0 pre va vc ch W) : ch.length = pre.length := by
  have := congrArg List.length h.key
  simpa using this

def PosRE (w : World) (Bo Bh : Nat) (hc : Array Value) (v : Value) (rv : List Value) (done : List (List Int)) (st : List En) (eps : List Int) (dfs : List Deferred) (n0 : Nat) (pre : List (Nat × Nd)) (W : World) : Prop := ∃ va vc ch, PosR w Bo Bh hc v rv done st eps dfs n0 pre va vc ch W
theorem PosR.own {w : World} {Bo Bh : Nat} {hc : Array Value} {v : Value} {rv : List Value} {done : List (List Int)} {st : List En} {eps : List Int} {dfs : List Deferred} {n0 : Nat} (hwn : w.heap.size ≤ n0) (hds : ∀ d ∈ dfs, ∀ D, d.target = .collected D → D < n0) : OwnFrom n0 (PosRE w Bo Bh hc v rv done st eps dfs n0) := by
  rintro pre X Y row ⟨va, vc, ch, h⟩ hg hr
  refine ⟨va, vc, ch, ⟨h.key, h.pst.grown hg (fun r e => ⟨by have := (hr r e).1; omega, (hr r e).2⟩), (hg.block Bh (Array.getElem?_eq_some_iff.1 h.here).1 (fun e => ?_)).trans h.here, h.off, h.marks.keep fun D hD d hd e => (hg.block D (Array.getElem?_eq_some_iff.1 hD).1 (fun e2 => ?_)).trans hD, Nat.le_trans h.size hg.size⟩⟩
  · obtain ⟨_, o, h1, h2⟩ := hr Bh e.symm
    rw [h.here] at h1; cases h1; cases h2
  · have h1 := (hr D e2.symm).1
    have h2 := hds d hd D e
    omega
theorem PosR.push {w : World} {Bo Bh : Nat} {hc : Array Value} {v : Value} {rv : List Value} {done : List (List Int)} {st : List En} {eps : List Int} {dfs : List Deferred} {n0 : Nat} {pre : List (Nat × Nd)} {va : Option Addr} {vc : Nat} {ch : List En} {W W' : World} {x : Nat × Nd} (h : PosR w Bo Bh hc v rv done st eps dfs n0 pre va vc ch W) (hl : rv.length = done.length) (hB : Bh ≠ Bo)
    (hf : PosFin w.heap.size Bo (ch ++ st).length va vc ((ch ++ st).reverse.flatMap En.cs) x.2.k x.2.n x.2.s x.2.a x.2.m x.2.c (eps ++ [(x.1 : Int)]) W W') (Bs n1 : Nat) :
    KeepsFrom n1 W W' ∧ KpB Bs w.heap.size W W' ∧ PosRE w Bo Bh hc v rv done st eps dfs n0 (pre ++ [x]) W' := by
  obtain ⟨va', vc', av, hs', hko, hbl, hty, hoth⟩ := h.pst.push hl hf
  obtain ⟨e1, e2⟩ := hoth Bh (Array.getElem?_eq_some_iff.1 h.here).1 hB h.off
  refine ⟨hko.from _, ⟨hbl, fun v hv => (hty Bs _ _ hv.lt hv (by decide) (by decide)).trans hv⟩, va', vc', ⟨eps ++ [(x.1 : Int)], x.2.k, x.2.n, x.2.s, x.2.a, x.2.m, x.2.c, av⟩ :: ch, ⟨?_, hs', e1.trans h.here, e2, h.marks.others hko, Nat.le_trans h.size hko.size⟩⟩
  rw [List.map_cons, h.key, List.reverse_append]
  rfl
end Go.Proofs.YtcmhiindjponcaaDoor
