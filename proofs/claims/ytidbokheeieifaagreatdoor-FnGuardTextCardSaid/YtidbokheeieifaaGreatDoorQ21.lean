/-
  Lists of Binds that are drawn: spec.l7Draw.
-/
import Derived.Test.YtidbokheeieifaaGreatDoorQ15
import Derived.Test.YtidbokheeieifaaGreatDoorQ19
import Derived.Test.YtidbokheeieifaaGreatDoorQ6
import Derived.Test.YtidbokheeieifaaGreatDoorQ9
import Derived.Test.YtidbokheeieifaaGreatDoorQ20
import Derived.Deep.AppendLies
namespace Go.Proofs.YtidbokheeieifaaGreatDoor
open Go.RowKit

theorem GrowB.snocG {own : Bool} {H lo m uc : Nat} {ua : Option Addr} {bs : List (ByteArray × T)} {wr w1 w3 : World} {p : ByteArray} {k n : Int} {s : ByteArray} {u : Value} {xs : List T} {g3 c3 : Nat} {ys : List Value} {row : Option Nat}
    (g : GrowB own H lo (.slice ua m uc) bs wr) (hm : m = bs.length) (hlo : lo ≤ wr.heap.size) (hb : wr.grownBy w1 row) (hr : ∀ k, row = some k → k < lo) (hp : p.size ≤ maxLen) (hs : s.size ≤ maxLen) (hk : Kept wr.heap.size w1.heap.size (KArgs own H wr.heap.size w1.heap.size u xs) w1)
    (hys : ∀ zs, wr.ownsRow lo 78 5 (.slice ua m uc) m zs → zs = ys)
    (ho3 : w3.ownsRow lo 78 5 (.slice (some ⟨g3, 0, none⟩) (m + 1) c3) (m + 1) (ys ++ [.string p, .int .i64 k, .int .i64 n, .string s, u]))
    (hg3 : (w1.alloc (.cells #[.string p, .int .i64 k, .int .i64 n, .string s, u] 78)).grownBy w3 (Value.slice ua m uc).ownBlock) (ha3 : (Value.slice ua m uc).ownBlock = some g3 ∨ g3 = (w1.alloc (.cells #[.string p, .int .i64 k, .int .i64 n, .string s, u] 78)).heap.size) :
    GrowB own H lo (.slice (some ⟨g3, 0, none⟩) (m + 1) c3) (bs ++ [(p, .node k n s xs)]) w3 := by
  obtain ⟨vs, U, L, R, ho, hx, hd⟩ := g
  rw [← hm] at ho
  obtain rfl := hys vs ho
  have hvl : vs.length = m * 5 := ho.1
  have hvb := ho.lt
  have hz := hb.size
  have hza : (w1.alloc (.cells #[.string p, .int .i64 k, .int .i64 n, .string s, u] 78)).heap.size = w1.heap.size + 1 := by simp
  have hgz := hg3.size
  rw [hza] at hgz ha3
  have hal : Below w1.heap.size w1 (w1.alloc (.cells #[.string p, .int .i64 k, .int .i64 n, .string s, u] 78)) := (Below.refl _ _).alloc (Nat.le_refl _) _
  have hgb : ∀ q, (Value.slice (some ⟨g3, 0, none⟩) (m + 1) c3).ownBlock = some q → q = g3 := fun q e => by simpa [Value.ownBlock] using e.symm
  refine ⟨_, fun i => if i = m then u else U i, fun i => if i = m then wr.heap.size else L i, fun i => if i = m then w1.heap.size else R i, by rw [List.length_append, List.length_singleton, ← hm]; exact ho3, fun i p' k' n' s' xs' hi => ?_, fun i j h1 h2 => ?_⟩
  · rcases Nat.lt_trichotomy i m with hlt | hlt | hlt
    · rw [List.getElem?_append_left (by omega)] at hi
      obtain ⟨h1, x0, x1, x2, x3, x4, h2, h3, hkk⟩ := hx i p' k' n' s' xs' hi
      have e : i ≠ m := by omega
      simp only [if_neg e]
      have hRl := hkk.1
      refine ⟨h1, ?_, ?_, ?_, ?_, ?_, h2, fun q hq => ?_, ((hkk.grown hb (fun q hq => Or.inl (by have := hr q hq; have := h2.1; omega))).below hal).grown hg3 (fun q hq => ?_)⟩
      · rw [List.getElem?_append_left (by omega)]; exact x0
      · rw [List.getElem?_append_left (by omega)]; exact x1
      · rw [List.getElem?_append_left (by omega)]; exact x2
      · rw [List.getElem?_append_left (by omega)]; exact x3
      · rw [List.getElem?_append_left (by omega)]; exact x4
      · obtain rfl := hgb q hq
        rcases ha3 with h | h
        · exact h3 q h
        · exact Or.inr (by omega)
      · have := h3 q hq; omega
    · subst hlt
      rw [hm] at hi
      simp only [List.getElem?_concat_length, Option.some.injEq, Prod.mk.injEq, T.node.injEq] at hi
      obtain ⟨rfl, rfl, rfl, rfl, rfl⟩ := hi
      simp only [if_true]
      refine ⟨⟨hp, hs⟩, ?_, ?_, ?_, ?_, ?_, ⟨hlo, hz⟩, fun q hq => ?_, (hk.below hal).grown hg3 (fun q hq => ?_)⟩
      · rw [List.getElem?_append_right (by omega), hvl, Nat.sub_self]; rfl
      · rw [List.getElem?_append_right (by omega), hvl, show i * 5 + 1 - i * 5 = 1 by omega]; rfl
      · rw [List.getElem?_append_right (by omega), hvl, show i * 5 + 2 - i * 5 = 2 by omega]; rfl
      · rw [List.getElem?_append_right (by omega), hvl, show i * 5 + 3 - i * 5 = 3 by omega]; rfl
      · rw [List.getElem?_append_right (by omega), hvl, show i * 5 + 4 - i * 5 = 4 by omega]; rfl
      · obtain rfl := hgb q hq
        rcases ha3 with h | h
        · exact Or.inl (hvb q h).2
        · exact Or.inr (by omega)
      · exact Or.inl (hvb q hq).2
    · rw [List.getElem?_eq_none (by simp; omega)] at hi; cases hi
  · rw [List.length_append, List.length_singleton, ← hm] at h2
    have e : i ≠ m := by omega
    simp only [if_neg e]
    by_cases e2 : j = m
    · simp only [if_pos e2]
      obtain ⟨⟨p1, t1⟩, ht⟩ : ∃ t, bs[i]? = some t := ⟨_, List.getElem?_eq_getElem (by omega)⟩
      obtain ⟨k1, n1, s1, x1⟩ := t1
      obtain ⟨_, _, _, _, _, _, _, _, hkk⟩ := hx i p1 k1 n1 s1 x1 ht
      exact hkk.1
    · simp only [if_neg e2]; exact hd i j h1 (by omega)
/-- What the next append is worth. -/
theorem GrowB.nextG {own : Bool} {H lo m uc : Nat} {ua : Option Addr} {bs : List (ByteArray × T)} {wr w1 : World} {row : Option Nat} (g : GrowB own H lo (.slice ua m uc) bs wr) (hm : m = bs.length) (hlo : lo ≤ wr.heap.size) (hb : wr.grownBy w1 row) (hr : ∀ k, row = some k → k < lo) :
    ∃ ys, w1.ownsRow lo 78 5 (.slice ua m uc) m ys ∧ ∀ (p : ByteArray) (k n : Int) (s : ByteArray) (u : Value) (xs : List T), p.size ≤ maxLen → s.size ≤ maxLen → Kept wr.heap.size w1.heap.size (KArgs own H wr.heap.size w1.heap.size u xs) w1 → ∀ g3 c3 w3,
      w3.ownsRow lo 78 5 (.slice (some ⟨g3, 0, none⟩) (m + 1) c3) (m + 1) (ys ++ [.string p, .int .i64 k, .int .i64 n, .string s, u]) → (w1.alloc (.cells #[.string p, .int .i64 k, .int .i64 n, .string s, u] 78)).grownBy w3 (Value.slice ua m uc).ownBlock →
      ((Value.slice ua m uc).ownBlock = some g3 ∨ g3 = (w1.alloc (.cells #[.string p, .int .i64 k, .int .i64 n, .string s, u] 78)).heap.size) → GrowB own H lo (.slice (some ⟨g3, 0, none⟩) (m + 1) c3) (bs ++ [(p, .node k n s xs)]) w3 := by
  have g0 := g
  obtain ⟨vs, _, _, _, ho, _⟩ := g
  rw [← hm] at ho
  refine ⟨vs, keep_at ho (fun k hk => hb.block k (ho.lt k hk).2 (fun e => by have := hr k e.symm; have := (ho.lt k hk).1; omega)), fun p k n s u xs hp hs hk g3 c3 w3 ho3 hg3 ha3 => g0.snocG hm hlo hb hr hp hs hk (fun zs hz => own_unique hz ho) ho3 hg3 ha3⟩
theorem GrowB.grown {own : Bool} {H lo : Nat} {v : Value} {bs : List (ByteArray × T)} {w w' : World} {row : Option Nat} (g : GrowB own H lo v bs w) (hg : w.grownBy w' row) (hr : ∀ k, row = some k → k < lo) : GrowB own H lo v bs w' := by
  obtain ⟨vs, U, L, R, ho, hx, hd⟩ := g
  refine ⟨vs, U, L, R, keep_at ho (fun k hk => hg.block k (ho.lt k hk).2 (fun e => by have := hr k e.symm; have := (ho.lt k hk).1; omega)), fun i p k n s xs hi => ?_, hd⟩
  obtain ⟨h1, x0, x1, x2, x3, x4, h2, h3, hk⟩ := hx i p k n s xs hi
  exact ⟨h1, x0, x1, x2, x3, x4, h2, h3, hk.grown hg (fun q hq => Or.inl (by have := hr q hq; have := h2.1; omega))⟩

theorem CurAt.kept7 {w w' : World} {B : Nat} {cv : Value} {len : Nat} {row : Option Nat} (h : CurAt w B cv len) (hg : w.grownBy w' row) (hr : some B ≠ row) : CurAt w' B cv len := by
  have hl := h.lt
  obtain ⟨i, x, hi, hB⟩ := h
  exact ⟨i, x, hi, by rw [hg.block B hl hr]; exact hB⟩
/-- A drawn list of Binds: short, its terms small. -/
def Small7 (bs : List (ByteArray × T)) : Prop := bs.length ≤ 3 ∧ ∀ x ∈ bs, x.1.size ≤ 1 ∧ wT x.2 ≤ 13
def DrawnBs (B : Nat) (cv : Value) (len : Nat) (w : World) (e : Ending) (w' : World) : Prop :=
  ∃ v bs, e = .returned v ∧ BsAt w' w.heap.size 2 v bs ∧ Small7 bs ∧ CurAt w' B cv len ∧ w.grownBy w' (some B)

abbrev texts7 : List ByteArray := [⟨#[88]⟩, ⟨#[89]⟩, ⟨#[90]⟩]

set_option maxRecDepth 100000 in
set_option maxHeartbeats 3200000 in
theorem draw7_any (B : Nat) (cv : Value) (len : Nat) (w : World) (hcode : CodeAt w B cv len) (hcur : CurAt w B cv len) :
    Calls Tryz.prog 32 #[.pointer (some ⟨B, 0, none⟩)] w (DrawnBs B cv len w) := by
  obtain ⟨i0, hi, hz0, hz1, hz2⟩ := info_parts infoBind
  have HI := Lib.hid hi; clear hi
  have HZ0 := Lib.hid hz0; clear hz0
  have HZ1 := Lib.hid hz1; clear hz1
  have HZ2 := Lib.hid hz2; clear hz2
  have hBl := hcur.lt
  have HBL := Lib.hid hBl
  obtain ⟨W0, hW0⟩ : ∃ W0, W0 = w.alloc (.cells #[] 78) := ⟨_, rfl⟩
  have hg0 : GrowB false 2 w.heap.size (.slice (some ⟨w.heap.size, 0, none⟩) 0 0) [] W0 := by rw [hW0]; exact GrowB.lit _ _ _ _ (Nat.le_refl _)
  have hgr0 : w.grownBy W0 (some B) := by rw [hW0]; exact World.grownBy_alloc _ _ _
  have hcu0 : CurAt W0 B cv len := by rw [hW0]; exact hcur.alloc _
  have HC := Lib.hid hcode
  have HG0 := Lib.hid hg0; have HGR0 := Lib.hid hgr0; have HCU0 := Lib.hid hcu0
  clear hcode hcur hg0 hgr0 hcu0 hBl
  go_enter Tryz.func32, Tryz.ntmps32
  go_upto_region 2 with fail
  rw [← hW0]
  clear hW0
  go_wp2_with fail
  refine (below_any B cv len 4 W0 (by decide) (by decide) (HC.out.grown HBL.out HGR0.out) HCU0.out).mono ?_
  rintro e w1 ⟨x, rfl, hx0, hx1, hcu1, hg1⟩
  obtain ⟨n, rfl⟩ : ∃ n : Nat, x = n := ⟨x.toNat, by omega⟩
  have hn3 : n ≤ 3 := by omega
  have HG1 := Lib.hid (HG0.out.grown hg1 (fun k e => by cases e; exact HBL.out))
  have HGR1 := Lib.hid (grown_trans HGR0.out hg1)
  have HCU1 := Lib.hid hcu1
  clear hx0 hx1 hcu1 hg1 HG0 HGR0 HCU0
  go_wp2
  go_loopw [3, 5] (fun v i wr => ∃ (j : Nat) (ua : Option Addr) (uc : Nat) (bs : List (ByteArray × T)), j ≤ n ∧ i = .int .i64 j ∧ v = .slice ua j uc ∧ Hid (j = bs.length ∧ ∀ x ∈ bs, x.1.size ≤ 1 ∧ wT x.2 ≤ 13) ∧ Hid (GrowB false 2 w.heap.size (.slice ua j uc) bs wr) ∧ Hid (w.grownBy wr (some B)) ∧ Hid (CurAt wr B cv len)) (fun _ i _ => n - (intOf i).toNat)
  case atStart => exact ⟨0, _, 0, [], Nat.zero_le _, rfl, rfl, Lib.hid ⟨rfl, by simp⟩, HG1, HGR1, HCU1⟩
  case round =>
    clear HG1 HGR1 HCU1
    obtain ⟨j, ua, uc, bs, hj, rfl, rfl, HS, HG, HGR, HCU⟩ := hrel
    by_cases hlt : j < n
    · obtain ⟨Wa, hWa⟩ : ∃ Wa, Wa = wr.alloc (.cells #[.string ⟨#[88]⟩, .string ⟨#[89]⟩, .string ⟨#[90]⟩] 9) := ⟨_, rfl⟩
      have hga : wr.grownBy Wa (some B) := by rw [hWa]; exact World.grownBy_alloc _ _ _
      have hcua : CurAt Wa B cv len := by rw [hWa]; exact HCU.out.alloc _
      have hPK := pick_any B wr.heap.size 3 cv len texts7 Wa (by decide) (by decide) (by have := HCU.out.lt; omega) (fun i p h => by
        rw [hWa]
        exact new_strs wr texts7 9 i p h) (HC.out.grown HBL.out (grown_trans HGR.out hga)) hcua
      have HPK := Lib.hid hPK
      have HGA := Lib.hid hga
      clear hPK hga hcua
      go_wp2_with fail
      rw [← hWa]
      clear hWa
      refine HPK.out.mono ?_
      rintro e w2 ⟨v2, hv2, rfl, hcu2, hg2⟩
      obtain ⟨p, hp, rfl⟩ := List.mem_map.1 hv2
      have HP : Hid (p.size ≤ 1) := Lib.hid (by simp [texts7] at hp; rcases hp with rfl | rfl | rfl <;> decide)
      have HG2 := Lib.hid (grown_trans HGA.out hg2)
      have HB2 := Lib.hid (below_any B cv len 2 w2 (by decide) (by decide) (HC.out.grown HBL.out (grown_trans HGR.out HG2.out)) hcu2)
      clear hv2 hp hcu2 hg2 HPK HGA
      go_wp2_with fail
      refine HB2.out.mono ?_
      rintro e w3 ⟨x, rfl, hx0, hx1, hcu3, hg3⟩
      have HG3 := Lib.hid (grown_trans HG2.out hg3)
      have HO3 := Lib.hid (once_any B cv len 2 w3 (by decide) (by decide) (HC.out.grown HBL.out (grown_trans HGR.out HG3.out)) hcu3)
      clear hcu3 hg3 HG2 HB2
      obtain ⟨d, hd, hdx⟩ : ∃ d : Nat, d ≤ 2 ∧ (1 : Int) + x = d := ⟨(1 + x).toNat, by omega, by omega⟩
      have hwr : IntKind.wrap .i64 (1 + x) = (d : Int) := by rw [hdx]; exact wrap_small d (by omega)
      go_wp2_with fail
      (try rw [hwr])
      refine HO3.out.mono ?_
      rintro e w4 ⟨qb, rfl, hcu4, hg4⟩
      have HG4 := Lib.hid (grown_trans HG3.out hg4)
      have HGB := Lib.hid (HG.out.grown HG4.out (fun k e => by cases e; exact HBL.out))
      have HGR4 := Lib.hid (grown_trans HGR.out HG4.out)
      have HD := Lib.hid (draw_any d (by omega) qb B cv len w4 (HC.out.grown HBL.out HGR4.out) hcu4)
      clear hcu4 hg4 HO3 HG3
      go_wp2_with fail
      (try rw [hwr])
      refine HD.out.mono ?_
      rintro e w5 ⟨k9, n9, s9, u9', ts9, xs9, rfl, hs9, ha9, hl9, ho9, hw9, hcu5, hg5, a9, rfl⟩
      have hbl := HBL.out
      have hrow : ∀ k, some B = some k → k < w.heap.size := fun k e => by cases e; exact hbl
      obtain ⟨ys, hys, hnx⟩ := HGB.out.nextG HS.out.1 HGR4.out.size hg5 hrow
      have hwd : 4 * 2 ^ d ≤ 16 := by
        rcases (by omega : d = 0 ∨ d = 1 ∨ d = 2) with rfl | rfl | rfl <;> decide
      have HYS := Lib.hid (hys.alloc (.cells #[.string p, .int .i64 k9, .int .i64 n9, .string s9, .slice a9 ts9.length ts9.length] 78))
      have HNX := Lib.hid (hnx p k9 n9 s9 _ ts9 (by have := HP.out; unfold maxLen; omega) (by unfold maxLen; omega) (kargs_read ha9 hd))
      have HGR5 := Lib.hid (grown_trans HGR4.out hg5)
      have HCU5 := Lib.hid hcu5
      have HW9 : Hid (wT (.node k9 n9 s9 ts9) ≤ 13) := Lib.hid (by omega)
      have HLO : Hid (w.heap.size ≤ (w5.alloc (.cells #[.string p, .int .i64 k9, .int .i64 n9, .string s9, .slice a9 ts9.length ts9.length] 78)).heap.size) := Lib.hid (by have := HGR5.out.size; simp; omega)
      have HNEW := Lib.hid (news5 w5 (.string p) (.int .i64 k9) (.int .i64 n9) (.string s9) (.slice a9 ts9.length ts9.length) 78 rfl)
      obtain ⟨ml, hml⟩ : ∃ m, m = ts9.length := ⟨_, rfl⟩
      rw [← hml] at HYS HNX HLO HNEW ⊢
      clear hs9 ha9 hl9 ho9 hw9 hcu5 hg5 hys hnx hrow hml HD HG
      go_wp2_with (first | (at_builtin; refine wpList_append_lies _ rfl (.tmp 14) (.tmp 26) 35 rfl (w.heap.size) 78 i0 (.agg #[.string ByteArray.empty, .int .i64 0, .int .i64 0, .string ByteArray.empty, .slice none 0 0]) 5 72 Tryz.underlying35 HI.out HZ0.out HZ1.out HZ2.out rfl (by decide) (.slice ua j uc) j ys rfl HYS.out ⟨w5.heap.size, 0, none⟩ 1 1 [.string p, .int .i64 k9, .int .i64 n9, .string s9, .slice a9 ml ml] rfl rfl HNEW.out (by intro u hu; simp at hu; rcases hu with rfl | rfl | rfl | rfl | rfl <;> rfl) (by decide) (by unfold maxLen; omega) (by omega) HLO.out _ rfl ?_; intro g3 c3' w6 ho3 hg3 ha3 hl3; have HGOT3 := Lib.hid (HNX.out g3 c3' w6 ho3 hg3 ha3); have HGR6 := Lib.hid hg3; clear ho3 hg3 ha3 hl3))
      go_roundw
      case rel =>
        have hnb : ∀ k, (Value.slice ua j uc).ownBlock = some k → w.heap.size ≤ k := fun k hk => (HYS.out.lt k hk).1
        have hg6 : w.grownBy w6 (some B) := (grown_trans HGR5.out (World.grownBy_alloc w5 _ (some B))).andThen HGR6.out (fun k hk => Or.inl (hnb k hk))
        refine ⟨j + 1, _, _, bs ++ [(p, .node k9 n9 s9 ts9)], by omega, by go_num, rfl, Lib.hid ⟨by have := HS.out.1; simp; omega, fun x hx => ?_⟩, HGOT3, Lib.hid hg6, Lib.hid ((HCU5.out.alloc _).kept7 HGR6.out (fun e => by have := hnb B e.symm; omega))⟩
        rcases List.mem_append.1 hx with h | h
        · exact HS.out.2 x h
        · simp at h; subst h; exact ⟨HP.out, HW9.out⟩
      case measure => simp [intOf]; omega
    · have hjn : j = n := by omega
      subst hjn
      have HRET : Hid (DrawnBs B cv len w (.returned (.slice ua j uc)) wr) := Lib.hid ⟨_, bs, rfl, HG.out.at (by have := HS.out.1; unfold maxLen; omega), ⟨by have := HS.out.1; omega, HS.out.2⟩, HCU.out, HGR.out⟩
      go_wp2
      go_ret
      exact HRET.out

theorem small7_w {bs : List (ByteArray × T)} (h : Small7 bs) : wBs bs ≤ 1000 := by
  obtain ⟨h1, h2⟩ := h
  match bs, h1, h2 with
  | [], _, _ => simp [wBs]
  | [x], _, h => have a := h x (by simp); simp [wBs]; omega
  | [x, y], _, h => have a := h x (by simp); have b := h y (by simp); simp [wBs]; omega
  | [x, y, z], _, h => have a := h x (by simp); have b := h y (by simp); have c := h z (by simp); simp [wBs]; omega
  | _ :: _ :: _ :: _ :: _, h1, _ => simp at h1

/-- Two drawn lists of Binds. -/
def DrawnB2 (w : World) (e : Ending) (w' : World) : Prop :=
  ∃ u v a b, e = .returned (.tuple #[u, v]) ∧ BsAt w' w.heap.size 2 u a ∧ BsAt w' w.heap.size 2 v b ∧ Small7 a ∧ Small7 b ∧ Below w.heap.size w w'
theorem BsAt.grown7 {w w' : World} {lo h : Nat} {u : Value} {bs : List (ByteArray × T)} {row : Option Nat} (k : BsAt w lo h u bs) (hg : w.grownBy w' row) (hr : ∀ j, row = some j → j < lo) : BsAt w' lo h u bs :=
  k.keep fun ad v hlo hv => hg.cell hv (fun e => by have := hr _ e.symm; omega)

theorem results_tc7 {fn : Func} {a b : Tmp} {t : TypeId} {tmps : Array Value} {ad : Addr} (h : fn.results = #[.tmp b, .cell a t]) (ha : tmps.getD a undef = .pointer (some ad)) (P : Program) (w : World) {x : Value}
    (hx : (loadVar t ad).run P w = .ok x w) : (results fn tmps).run P w = .ok (.tuple #[tmps.getD b undef, x]) w := by
  have h2 : tmps[a]?.getD undef = .pointer (some ad) := by rw [← ha]; simp
  simp [results, h, h2, asAddr, hx, Result.andThen]

/-- A drawn list of Binds and a drawn term. -/
def DrawnBT (w : World) (e : Ending) (w' : World) : Prop :=
  ∃ u a k n s aa m c t h, e = .returned (.tuple #[u, tv k n s (.slice aa m c)]) ∧ BsAt w' w.heap.size 2 u a ∧ Small7 a ∧ TermAt w' w.heap.size h (tv k n s (.slice aa m c)) t ∧ wT t ≤ 1000 ∧ Below w.heap.size w w'

end Go.Proofs.YtidbokheeieifaaGreatDoor
