/-
  spec.ParseGuard and impl.ParseGuard: the guard whose representation a text is.
-/
import Derived.Test.YtidbokheeieifaaGreatDoorQ27
import Derived.Test.YtidbokheeieifaaGreatDoorQ33
namespace Go.Proofs.YtidbokheeieifaaGreatDoor
open Go.RowKit

/-- A guard of the kind k whose representation the text is, as far as the first sign parts it. -/
noncomputable def tryG (s : ByteArray) (k : Int) : Option Gd :=
  match parT (cutA s (signB k)).data.toList, parT (cutZ s (signB k)).data.toList with
  | some l, some r => some ⟨k, l, r⟩
  | _, _ => none
/-- The guard whose representation the text is. -/
noncomputable def parG (s : ByteArray) : Option Gd := (tryG s 1).or ((tryG s 2).or (tryG s 3))
abbrev zG : Gd := ⟨0, zT, zT⟩
theorem tryG_none {s : ByteArray} {k : Int} (h : (parT (cutA s (signB k)).data.toList).isSome = false ∨ (parT (cutZ s (signB k)).data.toList).isSome = false) : tryG s k = none := by
  unfold tryG
  cases h1 : parT (cutA s (signB k)).data.toList with
  | none => rfl
  | some l =>
    cases h2 : parT (cutZ s (signB k)).data.toList with
    | none => rfl
    | some r => rw [h1, h2] at h; simp at h
theorem tryG_some {s : ByteArray} {k : Int} (h1 : (parT (cutA s (signB k)).data.toList).isSome = true) (h2 : (parT (cutZ s (signB k)).data.toList).isSome = true) :
    tryG s k = some ⟨k, (parT (cutA s (signB k)).data.toList).getD zT, (parT (cutZ s (signB k)).data.toList).getD zT⟩ := by
  unfold tryG
  obtain ⟨l, e1⟩ := Option.isSome_iff_exists.1 h1
  obtain ⟨r, e2⟩ := Option.isSome_iff_exists.1 h2
  rw [e1, e2]
  rfl
theorem parT_nil : parT [] = none := by
  refine parT_none (Or.inr fun t hv he => ?_)
  exact empty_text hv he
theorem tryG_miss {s : ByteArray} {k : Int} (h : cutF s (signB k) = false) : tryG s k = none := by
  rcases cut_cases s (signB k) with ⟨_, _, e, _⟩ | ⟨_, _, _, _, _, e⟩
  · refine tryG_none (Or.inr ?_)
    rw [e]
    show (parT []).isSome = false
    rw [parT_nil]; rfl
  · rw [h] at e; cases e
theorem parG_at {s : ByteArray} {k : Int} (hk : 1 ≤ k) (hk3 : k ≤ 3) (hno : ∀ j, 1 ≤ j → j < k → tryG s j = none) {g : Gd} (h : tryG s k = some g) : parG s = some g := by
  unfold parG
  by_cases h1 : k = 1
  · subst h1; rw [h]; rfl
  rw [hno 1 (by omega) (by omega)]
  by_cases h2 : k = 2
  · subst h2; rw [h]; rfl
  rw [hno 2 (by omega) (by omega)]
  obtain rfl : k = 3 := by omega
  rw [h]; rfl
theorem parG_no {s : ByteArray} (hno : ∀ j, 1 ≤ j → j ≤ 3 → tryG s j = none) : parG s = none := by
  unfold parG
  rw [hno 1 (by omega) (by omega), hno 2 (by omega) (by omega), hno 3 (by omega) (by omega)]; rfl

/-- What parsing gives. -/
def ResG (ok : Bool) (g : Gd) (w : World) (e : Ending) (w' : World) : Prop :=
  ∃ H k n s a m c xs k' n' s' a' m' c' xs', e = .returned (.tuple #[gv g.kd k n s (.slice a m c) k' n' s' (.slice a' m' c'), .bool ok]) ∧ g.l = .node k n s xs ∧ g.r = .node k' n' s' xs' ∧ (s.size ≤ maxLen ∧ s'.size ≤ maxLen) ∧
    (ArgsAt w' w.heap.size H (.slice a m c) xs ∧ ArgsAt w' w.heap.size H (.slice a' m' c') xs') ∧ OwnG w' H w.heap.size w'.heap.size (.slice a m c) (.slice a' m' c') xs xs' ∧ Below w.heap.size w w'
theorem OwnA.leC {w : World} : ∀ {h h' lo hi : Nat} {u : Value} {ts : List T}, h ≤ h' → OwnA w h lo hi u ts → OwnA w h' lo hi u ts
  | 0, 0, _, _, _, _, _, k => k
  | 0, h' + 1, _, _, _, _, _, ⟨e, a, cap, e2⟩ => by subst e; exact ⟨a, cap, e2, Or.inl rfl⟩
  | h + 1, 0, _, _, _, _, hle, _ => by omega
  | h + 1, h' + 1, _, _, _, _, hle, ⟨a, cap, e, hc⟩ => by
    refine ⟨a, cap, e, ?_⟩
    rcases hc with hc | ⟨g, xs, U, L, R, ea, h1, h2, ho, hx, hd⟩
    · exact Or.inl hc
    · refine Or.inr ⟨g, xs, U, L, R, ea, h1, h2, ho, fun i k n s txs hi => ?_, hd⟩
      obtain ⟨x3, l1, l2, l3, hr⟩ := hx i k n s txs hi
      exact ⟨x3, l1, l2, l3, hr.leC (by omega)⟩
theorem set9_all {W : World} {b : Nat} {x0 x1 x2 x3 x4 x5 x6 x7 x8 : Value} {ty : TypeId} (h : W.heap[b]? = some (.cells #[x0, x1, x2, x3, x4, x5, x6, x7, x8] ty (0, 0))) (y0 y1 y2 y3 y4 y5 y6 y7 y8 : Value) {B : Nat} {w : World} (hb : Below B w W) (hB : B ≤ b) :
    Below B w (((((((((W.setCell ⟨b, 0, none⟩ y0).setCell ⟨b, 1, none⟩ y1).setCell ⟨b, 2, none⟩ y2).setCell ⟨b, 3, none⟩ y3).setCell ⟨b, 4, none⟩ y4).setCell ⟨b, 5, none⟩ y5).setCell ⟨b, 6, none⟩ y6).setCell ⟨b, 7, none⟩ y7).setCell ⟨b, 8, none⟩ y8) := by
  iterate 9 refine Below.setCell ?_ (by exact hB) _
  exact hb
theorem resG_no {s : ByteArray} {w w1 w' : World} {b : Nat} (hno : ∀ j, 1 ≤ j → j ≤ 3 → tryG s j = none) (hb : Below w.heap.size w w') : ResG (parG s).isSome ((parG s).getD zG) w (.returned (.tuple #[gv 0 0 0 ByteArray.empty (.slice none 0 0) 0 0 ByteArray.empty (.slice none 0 0), .bool false])) w' := by
  rw [parG_no hno]
  exact ⟨0, 0, 0, ByteArray.empty, none, 0, 0, [], 0, 0, ByteArray.empty, none, 0, 0, [], rfl, rfl, rfl, ⟨by decide, by decide⟩, ⟨ArgsAt.nil _ _ _ _ _, ArgsAt.nil _ _ _ _ _⟩, ⟨w.heap.size, w.heap.size, w.heap.size, w.heap.size, Nat.le_refl _, hb.size, Nat.le_refl _, hb.size, Or.inl (Nat.le_refl _), ⟨rfl, _, _, rfl⟩, ⟨rfl, _, _, rfl⟩⟩, hb⟩
theorem resG_yes {s : ByteArray} {w wA wB wE : World} {b H H' : Nat} {kd k n : Int} {nm : ByteArray} {a : Option Addr} {m c : Nat} {xs : List T} {k' n' : Int} {nm' : ByteArray} {a' : Option Addr} {m' c' : Nat} {xs' : List T} {lo lo' hi : Nat} (hg : parG s = some ⟨kd, .node k n nm xs, .node k' n' nm' xs'⟩)
    (hn : nm.size ≤ maxLen) (hn' : nm'.size ≤ maxLen) (ol : OwnR (fun _ => True) wE H lo hi (.slice a m c) xs) (or' : OwnR (fun _ => True) wE H' lo' wE.heap.size (.slice a' m' c') xs') (hw : w.heap.size ≤ b) (h1 : b < lo) (h2 : lo ≤ hi) (h3 : hi ≤ lo') (h4 : lo' ≤ wE.heap.size) (hb : Below w.heap.size w wE)
    (y0 y1 y2 y3 y4 y5 y6 y7 y8 : Value) : ResG (parG s).isSome ((parG s).getD zG) w (.returned (.tuple #[gv kd k n nm (.slice a m c) k' n' nm' (.slice a' m' c'), .bool true]))
      (((((((((wE.setCell ⟨b, 0, none⟩ y0).setCell ⟨b, 1, none⟩ y1).setCell ⟨b, 2, none⟩ y2).setCell ⟨b, 3, none⟩ y3).setCell ⟨b, 4, none⟩ y4).setCell ⟨b, 5, none⟩ y5).setCell ⟨b, 6, none⟩ y6).setCell ⟨b, 7, none⟩ y7).setCell ⟨b, 8, none⟩ y8) := by
  obtain ⟨X, hX⟩ : ∃ X, X = (((((((((wE.setCell ⟨b, 0, none⟩ y0).setCell ⟨b, 1, none⟩ y1).setCell ⟨b, 2, none⟩ y2).setCell ⟨b, 3, none⟩ y3).setCell ⟨b, 4, none⟩ y4).setCell ⟨b, 5, none⟩ y5).setCell ⟨b, 6, none⟩ y6).setCell ⟨b, 7, none⟩ y7).setCell ⟨b, 8, none⟩ y8) := ⟨_, rfl⟩
  have hh : ∀ d, b < d → X.heap[d]? = wE.heap[d]? := fun d hd => by rw [hX, set9_heap (by omega)]
  have hz : X.heap.size = wE.heap.size := by rw [hX]; simp [World.setCell]
  have hbx : Below w.heap.size w X := by
    rw [hX]
    iterate 9 refine Below.setCell ?_ (by exact hw) _
    exact hb
  rw [← hX, hg]
  have ol2 : OwnR (fun _ => True) X H lo hi (.slice a m c) xs := ol.keep fun d _ d1 _ => ⟨hh d (by omega), trivial⟩
  have or2 : OwnR (fun _ => True) X H' lo' wE.heap.size (.slice a' m' c') xs' := or'.keep fun d _ d1 _ => ⟨hh d (by omega), trivial⟩
  exact ⟨max H H', k, n, nm, a, m, c, xs, k', n', nm', a', m', c', xs', rfl, rfl, rfl, ⟨hn, hn'⟩, ⟨(ol2.args (by omega)).le (Nat.le_max_left _ _), (or2.args (by omega)).le (Nat.le_max_right _ _)⟩, ⟨lo, hi, lo', wE.heap.size, by omega, by omega, by omega, by omega, Or.inl h3, ol2.own.leC (Nat.le_max_left _ _), or2.own.leC (Nat.le_max_right _ _)⟩, hbx⟩
theorem results_ctG {fn : Func} {a b : Tmp} {t : TypeId} {tmps : Array Value} {ad : Addr} (h : fn.results = #[.cell a t, .tmp b]) (ha : tmps.getD a undef = .pointer (some ad)) (P : Program) (w : World) {x : Value}
    (hx : (loadVar t ad).run P w = .ok x w) : (results fn tmps).run P w = .ok (.tuple #[x, tmps.getD b undef]) w := by
  have h2 : tmps[a]?.getD undef = .pointer (some ad) := by rw [← ha]; simp
  simp [results, h, h2, asAddr, hx, Result.andThen]

/-- The library's variable on its search holds some integer. -/
def MaxOkG (w : World) : Prop := ∃ m, w.cell? ⟨0, 0, none⟩ = some (.int .i64 m)

set_option maxRecDepth 100000 in
set_option maxHeartbeats 6400000 in
theorem sParG_any (s : ByteArray) (w : World) (hs : s.size ≤ 1048576) :
    Calls Tryz.prog 9 #[.string s] w (ResG (parG s).isSome ((parG s).getD zG) w) := by
  obtain ⟨W, hW⟩ : ∃ W, W = w.alloc (.cells #[.int .i64 0, .int .i64 0, .int .i64 0, .string ⟨#[]⟩, .slice none 0 0, .int .i64 0, .int .i64 0, .string ⟨#[]⟩, .slice none 0 0] 28) := ⟨_, rfl⟩
  have hb0 : Below w.heap.size w W := by rw [hW]; exact (Below.refl _ _).alloc (Nat.le_refl _) _
  have hr : W.heap[w.heap.size]? = some (grow 28 0 0 0 ⟨#[]⟩ (.slice none 0 0) 0 0 ⟨#[]⟩ (.slice none 0 0)) := by rw [hW]; exact heap_new _ _ rfl
  have hws : W.heap.size = w.heap.size + 1 := by rw [hW]; simp
  have HR := Lib.hid hr; clear hr
  have HB0 := Lib.hid hb0
  have HWS := Lib.hid hws; clear hws
  have HSIGN := Lib.hid (fun (k : Int) (w' : World) => sSign_any k w')
  have HPT := Lib.hid (fun (q : ByteArray) (w' : World) (hq : q.size ≤ 1048576) => (sParse_any q w' (by omega)).mono fun _ _ h => resP_s h)
  unfold SignB at HSIGN
  have hcs := fun k : Int => cut_sizes s (signB k)
  have HCS := Lib.hid hcs; clear hcs hb0
  go_enter Tryz.func9, Tryz.ntmps9
  go_wp2
  rw [← hW]
  clear hW
  go_loopw [4] (fun i wr => ∃ k : Int, 1 ≤ k ∧ k ≤ 4 ∧ i = .int .i64 k ∧ Hid (∀ j, 1 ≤ j → j < k → tryG s j = none) ∧ Hid (Below W.heap.size W wr)) (fun i _ => (4 - intOf i).toNat)
  case atStart => exact ⟨1, by omega, by omega, rfl, Lib.hid (fun j h1 h2 => by omega), Lib.hid (Below.refl _ _)⟩
  case round =>
    obtain ⟨k, hk1, hk4, rfl, HNO, HB⟩ := hrel
    by_cases hk3 : k ≤ 3
    · obtain ⟨sg, hsg⟩ : ∃ sg, sg = signB k := ⟨_, rfl⟩
      have HTRY := Lib.hid (And.intro (fun h => tryG_none (s := s) (k := k) h) (And.intro (fun h1 h2 => tryG_some (s := s) (k := k) h1 h2) (fun h => tryG_miss (s := s) (k := k) h)))
      have HSG := Lib.hid (HSIGN.out k)
      have hsz : 1 ≤ sg.size ∧ sg.size ≤ 4 := by
        rw [hsg]
        refine ⟨?_, sign_size k⟩
        have h3 : k = 1 ∨ k = 2 ∨ k = 3 := by omega
        rcases h3 with rfl | rfl | rfl <;> decide
      have HSZ := Lib.hid (HCS.out k)
      rw [← hsg] at HTRY HSG HSZ
      clear hsg
      obtain ⟨ca, hca⟩ : ∃ c, c = cutA s sg := ⟨_, rfl⟩
      obtain ⟨cz, hcz⟩ : ∃ c, c = cutZ s sg := ⟨_, rfl⟩
      obtain ⟨cf, hcf⟩ : ∃ c, c = cutF s sg := ⟨_, rfl⟩
      have HCUT := Lib.hid (fun (w' : World) => sCut_any s sg w' hs hsz.1 hsz.2)
      unfold CutB at HCUT
      rw [← hca, ← hcz, ← hcf] at HCUT
      rw [← hca, ← hcz, ← hcf] at HTRY
      rw [← hca, ← hcz] at HSZ
      clear hca hcz hcf hsz
      obtain ⟨okL, hokL⟩ : ∃ o, o = (parT ca.data.toList).isSome := ⟨_, rfl⟩
      obtain ⟨okR, hokR⟩ : ∃ o, o = (parT cz.data.toList).isSome := ⟨_, rfl⟩
      obtain ⟨tl, htl⟩ : ∃ t, t = (parT ca.data.toList).getD zT := ⟨_, rfl⟩
      obtain ⟨tr, htr⟩ : ∃ t, t = (parT cz.data.toList).getD zT := ⟨_, rfl⟩
      have HPL := Lib.hid (HPT.out ca)
      have HPR := Lib.hid (HPT.out cz)
      unfold ResP at HPL HPR
      rw [← hokL, ← htl] at HPL
      rw [← hokR, ← htr] at HPR
      rw [← hokL, ← hokR, ← htl, ← htr] at HTRY
      clear hokL hokR htl htr
      go_wp2_with fail
      refine (HSG.out _).mono ?_
      rintro e w1 ⟨rfl, hb1⟩
      have HB1 := Lib.hid (bel_two HB.out hb1); clear hb1
      go_wp2_with fail
      refine (HCUT.out _).mono ?_
      rintro e w2 ⟨rfl, hb2⟩
      have HB2 := Lib.hid (bel_two HB1.out hb2); clear hb2
      cases cf with
      | false =>
        have HM := Lib.hid (HTRY.out.2.2 rfl)
        go_wp2
        go_roundw
        case rel => exact ⟨k + 1, by omega, by omega, by go_num, Lib.hid (fun j h1 h2 => by
          by_cases h3 : j = k
          · rw [h3]; exact HM.out
          · exact HNO.out j h1 (by omega)), HB2⟩
        case measure => simp [intOf]; omega
      | true =>
      go_wp2_with fail
      refine (HPL.out _ (by have := HSZ.out; omega)).mono ?_
      rintro e w3 ⟨⟨kl, nl, sl, al, ml, cl, Hl, xl, rfl, el, hsl, hol, hb3⟩, _⟩
      obtain ⟨W3, hW3⟩ : ∃ W3, W3 = boxed w3 kl nl sl (.slice al ml cl) := ⟨_, rfl⟩
      have hb3b : Below w3.heap.size w3 W3 := by rw [hW3]; exact boxed_below _ _ _ _ _
      have hq3 : W3.heap[w3.heap.size]? = some (trow kl nl sl (.slice al ml cl)) := by rw [hW3]; exact heap_new _ _ rfl
      have hz3 := hb3.size
      have hz3b := hb3b.size
      have HB3b := Lib.hid (bel_two (bel_two HB2.out hb3) hb3b)
      have HOL := Lib.hid (And.intro el (And.intro hsl (OwnR.keep (Q := fun _ => True) (Q' := fun _ => True) (w' := W3) (fun b _ _ b2 => ⟨hb3b.block b b2, trivial⟩) hol)))
      have HQ3 := Lib.hid hq3
      clear el hsl hol hb3 hb3b hq3
      unfold boxed at hW3
      go_wp2_with fail
      rw [← hW3]
      clear hW3
      refine (HPR.out _ (by have := HSZ.out; omega)).mono ?_
      rintro e w4 ⟨⟨kr, nr, sr, ar, mr, cr, Hr, xr, rfl, er, hsr, hor, hb4⟩, _⟩
      obtain ⟨W4, hW4⟩ : ∃ W4, W4 = boxed w4 kr nr sr (.slice ar mr cr) := ⟨_, rfl⟩
      have hb4b : Below w4.heap.size w4 W4 := by rw [hW4]; exact boxed_below _ _ _ _ _
      have hq4 : W4.heap[w4.heap.size]? = some (trow kr nr sr (.slice ar mr cr)) := by rw [hW4]; exact heap_new _ _ rfl
      have hz4 := hb4.size
      have hz4b := hb4b.size
      have hB4 : Below W3.heap.size W3 W4 := bel_two hb4 hb4b
      have hq34 := (hB4.block w3.heap.size (Array.getElem?_eq_some_iff.1 HQ3.out).1).trans HQ3.out
      have HB4b := Lib.hid (bel_two HB3b.out hB4)
      have HOR := Lib.hid (And.intro er (And.intro hsr (OwnR.keep (Q := fun _ => True) (Q' := fun _ => True) (w' := W4) (fun b _ _ b2 => ⟨hb4b.block b b2, trivial⟩) hor)))
      have HOL4 := Lib.hid (OwnR.keep (Q := fun _ => True) (Q' := fun _ => True) (w' := W4) (fun b _ _ b2 => ⟨hB4.block b (by omega), trivial⟩) HOL.out.2.2)
      have hres := (HB4b.out.block w.heap.size (by have := HWS.out; omega)).trans HR.out
      obtain ⟨a0, a1, a2, a3⟩ := cells_of4L hq34
      obtain ⟨b0, b1, b2, b3⟩ := cells_of4L hq4
      obtain ⟨z0, z1, z2, z3, z4, z5, z6, z7, z8⟩ := cells_of9 hres
      have fz := fun j => frozen_of_row W4 w.heap.size j _ _ hres
      have y0 := fz 0
      have y1 := fz 1
      have y2 := fz 2
      have y3 := fz 3
      have y4 := fz 4
      have y5 := fz 5
      have y6 := fz 6
      have y7 := fz 7
      have y8 := fz 8
      have HRES := Lib.hid hres
      clear er hsr hor hb4 hb4b hB4 hq34 hq4 hres fz
      rw [hW4] at a0 a1 a2 a3 b0 b1 b2 b3 z0 z1 z2 z3 z4 z5 z6 z7 z8 y0 y1 y2 y3 y4 y5 y6 y7 y8
      unfold boxed at hW4 a0 a1 a2 a3 b0 b1 b2 b3 z0 z1 z2 z3 z4 z5 z6 z7 z8 y0 y1 y2 y3 y4 y5 y6 y7 y8
      cases okL with
      | false =>
        have HM := Lib.hid (HTRY.out.1 (Or.inl rfl))
        go_wp2
        rw [← hW4]
        go_roundw
        case rel => exact ⟨k + 1, by omega, by omega, by go_num, Lib.hid (fun j h1 h2 => by
          by_cases h3 : j = k
          · rw [h3]; exact HM.out
          · exact HNO.out j h1 (by omega)), HB4b⟩
        case measure => simp [intOf]; omega
      | true =>
        cases okR with
        | false =>
          have HM := Lib.hid (HTRY.out.1 (Or.inr rfl))
          go_wp2
          rw [← hW4]
          go_roundw
          case rel => exact ⟨k + 1, by omega, by omega, by go_num, Lib.hid (fun j h1 h2 => by
            by_cases h3 : j = k
            · rw [h3]; exact HM.out
            · exact HNO.out j h1 (by omega)), HB4b⟩
          case measure => simp [intOf]; omega
        | true =>
          have HM := Lib.hid (parG_at hk1 hk3 HNO.out (HTRY.out.2.1 rfl rfl))
          have HF := Lib.hid (fun y0 y1 y2 y3 y4 y5 y6 y7 y8 => resG_yes (s := s) (w := w) (wE := W4) (wA := W) (wB := W) (b := w.heap.size) (by rw [HM.out, HOL.out.1, HOR.out.1]) HOL.out.2.1 HOR.out.2.1 HOL4.out (HOR.out.2.2.wide (Nat.le_refl _) hz4b) (Nat.le_refl _) (by have := HB2.out.size; have := HWS.out; omega) hz3 hz3b (by omega) (HB0.out.trans (HB4b.out.mono HB0.out.size)) y0 y1 y2 y3 y4 y5 y6 y7 y8)
          go_wp2
          rw [← hW4]
          (try simp only [Exit.inBlock, Exit.then])
          refine bodyPost_ret (v := .tuple #[gv k kl nl sl (.slice al ml cl) kr nr sr (.slice ar mr cr), .bool true]) ?hr1 rfl ?_
          case hr1 =>
            rw [results_ctG (a := 2) (b := 3) (t := 28) (ad := ⟨w.heap.size, 0, none⟩) (x := gv k kl nl sl (.slice al ml cl) kr nr sr (.slice ar mr cr)) rfl rfl]
            · rfl
            · obtain ⟨l0, l1, l2, l3, l4, l5, l6, l7, l8⟩ := cells_of9 (setall9 HRES.out (.int .i64 k) (.int .i64 kl) (.int .i64 nl) (.string sl) (.slice al ml cl) (.int .i64 kr) (.int .i64 nr) (.string sr) (.slice ar mr cr))
              go_simp
          exact HF.out _ _ _ _ _ _ _ _ _
    · have hk : k = 4 := by omega
      subst hk
      have hres := (HB.out.block w.heap.size (by have := HWS.out; omega)).trans HR.out
      obtain ⟨z0, z1, z2, z3, z4, z5, z6, z7, z8⟩ := cells_of9 hres
      have fz := fun j => frozen_of_row wr w.heap.size j _ _ hres
      have y0 := fz 0
      have y1 := fz 1
      have y2 := fz 2
      have y3 := fz 3
      have y4 := fz 4
      have y5 := fz 5
      have y6 := fz 6
      have y7 := fz 7
      have y8 := fz 8
      have HF := Lib.hid (fun y0 y1 y2 y3 y4 y5 y6 y7 y8 => resG_no (s := s) (w := w) (w1 := w) (b := 0) (fun j h1 h2 => HNO.out j h1 (by omega)) (set9_all hres y0 y1 y2 y3 y4 y5 y6 y7 y8 (HB0.out.trans (HB.out.mono HB0.out.size)) (Nat.le_refl _)))
      have HRES := Lib.hid hres
      clear fz hres
      go_wp2
      (try simp only [Exit.inBlock, Exit.then])
      refine bodyPost_ret (v := .tuple #[gv 0 0 0 ByteArray.empty (.slice none 0 0) 0 0 ByteArray.empty (.slice none 0 0), .bool false]) ?hr2 rfl ?_
      case hr2 =>
        rw [results_ctG (a := 2) (b := 3) (t := 28) (ad := ⟨w.heap.size, 0, none⟩) (x := gv 0 0 0 ByteArray.empty (.slice none 0 0) 0 0 ByteArray.empty (.slice none 0 0)) rfl rfl]
        · rfl
        · obtain ⟨l0, l1, l2, l3, l4, l5, l6, l7, l8⟩ := cells_of9 (setall9 HRES.out (.int .i64 0) (.int .i64 0) (.int .i64 0) (.string ⟨#[]⟩) (.slice none 0 0) (.int .i64 0) (.int .i64 0) (.string ⟨#[]⟩) (.slice none 0 0))
          go_simp
          try rfl
      exact HF.out _ _ _ _ _ _ _ _ _

set_option maxRecDepth 100000 in
set_option maxHeartbeats 6400000 in
theorem iParG_any (s : ByteArray) (w : World) (hs : s.size ≤ 1048576) (ht : TabsAt w) (hmx : MaxOkG w) :
    Calls Tryz.prog 8 #[.string s] w (ResG (parG s).isSome ((parG s).getD zG) w) := by
  obtain ⟨W, hW⟩ : ∃ W, W = w.alloc (.cells #[.int .i64 0, .int .i64 0, .int .i64 0, .string ⟨#[]⟩, .slice none 0 0, .int .i64 0, .int .i64 0, .string ⟨#[]⟩, .slice none 0 0] 28) := ⟨_, rfl⟩
  have hb0 : Below w.heap.size w W := by rw [hW]; exact (Below.refl _ _).alloc (Nat.le_refl _) _
  have hr : W.heap[w.heap.size]? = some (grow 28 0 0 0 ⟨#[]⟩ (.slice none 0 0) 0 0 ⟨#[]⟩ (.slice none 0 0)) := by rw [hW]; exact heap_new _ _ rfl
  have hws : W.heap.size = w.heap.size + 1 := by rw [hW]; simp
  have HR := Lib.hid hr; clear hr
  have HB0 := Lib.hid hb0
  have HWS := Lib.hid hws; clear hws
  have HT : Hid (∀ w', Below W.heap.size W w' → TabsAt w' ∧ ∃ m, w'.cell? ⟨0, 0, none⟩ = some (.int .i64 m)) := Lib.hid (fun w' hb => by
    have hbb := hb0.trans (hb.mono hb0.size)
    obtain ⟨m, hm⟩ := hmx
    exact ⟨ht.below hbb ht.low, m, by rw [hbb.cell (World.block_lt_of_cell? w _ hm)]; exact hm⟩)
  clear ht hmx
  have HSIGN := Lib.hid (fun (k : Int) (w' : World) => iSign_any k w')
  have HPT := Lib.hid (fun (q : ByteArray) (w' : World) (hq : q.size ≤ 1048576) (ht : TabsAt w') => (parseI_any q w' (by omega) ht).mono fun _ _ h => resP_i h)
  unfold SignB at HSIGN
  have hcs := fun k : Int => cut_sizes s (signB k)
  have HCS := Lib.hid hcs; clear hcs hb0
  go_enter Tryz.func8, Tryz.ntmps8
  go_wp2
  rw [← hW]
  clear hW
  go_loopw [4] (fun i wr => ∃ k : Int, 1 ≤ k ∧ k ≤ 4 ∧ i = .int .i64 k ∧ Hid (∀ j, 1 ≤ j → j < k → tryG s j = none) ∧ Hid (Below W.heap.size W wr)) (fun i _ => (4 - intOf i).toNat)
  case atStart => exact ⟨1, by omega, by omega, rfl, Lib.hid (fun j h1 h2 => by omega), Lib.hid (Below.refl _ _)⟩
  case round =>
    obtain ⟨k, hk1, hk4, rfl, HNO, HB⟩ := hrel
    by_cases hk3 : k ≤ 3
    · obtain ⟨sg, hsg⟩ : ∃ sg, sg = signB k := ⟨_, rfl⟩
      have HTRY := Lib.hid (And.intro (fun h => tryG_none (s := s) (k := k) h) (And.intro (fun h1 h2 => tryG_some (s := s) (k := k) h1 h2) (fun h => tryG_miss (s := s) (k := k) h)))
      have HSG := Lib.hid (HSIGN.out k)
      have hsz : 1 ≤ sg.size ∧ sg.size ≤ 4 := by
        rw [hsg]
        refine ⟨?_, sign_size k⟩
        have h3 : k = 1 ∨ k = 2 ∨ k = 3 := by omega
        rcases h3 with rfl | rfl | rfl <;> decide
      have HSZ := Lib.hid (HCS.out k)
      rw [← hsg] at HTRY HSG HSZ
      clear hsg
      obtain ⟨ca, hca⟩ : ∃ c, c = cutA s sg := ⟨_, rfl⟩
      obtain ⟨cz, hcz⟩ : ∃ c, c = cutZ s sg := ⟨_, rfl⟩
      obtain ⟨cf, hcf⟩ : ∃ c, c = cutF s sg := ⟨_, rfl⟩
      have HCUT := Lib.hid (fun (m : Int) (w' : World) (hm : w'.cell? ⟨0, 0, none⟩ = some (.int .i64 m)) => iCut_any s sg m w' hs hm)
      unfold CutB at HCUT
      rw [← hca, ← hcz, ← hcf] at HCUT
      rw [← hca, ← hcz, ← hcf] at HTRY
      rw [← hca, ← hcz] at HSZ
      clear hca hcz hcf hsz
      obtain ⟨okL, hokL⟩ : ∃ o, o = (parT ca.data.toList).isSome := ⟨_, rfl⟩
      obtain ⟨okR, hokR⟩ : ∃ o, o = (parT cz.data.toList).isSome := ⟨_, rfl⟩
      obtain ⟨tl, htl⟩ : ∃ t, t = (parT ca.data.toList).getD zT := ⟨_, rfl⟩
      obtain ⟨tr, htr⟩ : ∃ t, t = (parT cz.data.toList).getD zT := ⟨_, rfl⟩
      have HPL := Lib.hid (HPT.out ca)
      have HPR := Lib.hid (HPT.out cz)
      unfold ResP at HPL HPR
      rw [← hokL, ← htl] at HPL
      rw [← hokR, ← htr] at HPR
      rw [← hokL, ← hokR, ← htl, ← htr] at HTRY
      clear hokL hokR htl htr
      go_wp2_with fail
      refine (HSG.out _).mono ?_
      rintro e w1 ⟨rfl, hb1⟩
      have HB1 := Lib.hid (bel_two HB.out hb1); clear hb1
      obtain ⟨_, mx, hmx⟩ := HT.out _ HB1.out
      go_wp2_with fail
      refine (HCUT.out mx _ hmx).mono ?_
      rintro e w2 ⟨rfl, hb2⟩
      clear hmx
      have HB2 := Lib.hid (bel_two HB1.out hb2); clear hb2
      go_wp2_with fail
      refine (HPL.out _ (by have := HSZ.out; omega) (HT.out _ HB2.out).1).mono ?_
      rintro e w3 ⟨⟨kl, nl, sl, al, ml, cl, Hl, xl, rfl, el, hsl, hol, hb3⟩, _⟩
      obtain ⟨W3, hW3⟩ : ∃ W3, W3 = boxed w3 kl nl sl (.slice al ml cl) := ⟨_, rfl⟩
      have hb3b : Below w3.heap.size w3 W3 := by rw [hW3]; exact boxed_below _ _ _ _ _
      have hq3 : W3.heap[w3.heap.size]? = some (trow kl nl sl (.slice al ml cl)) := by rw [hW3]; exact heap_new _ _ rfl
      have hz3 := hb3.size
      have hz3b := hb3b.size
      have HB3b := Lib.hid (bel_two (bel_two HB2.out hb3) hb3b)
      have HOL := Lib.hid (And.intro el (And.intro hsl (OwnR.keep (Q := fun _ => True) (Q' := fun _ => True) (w' := W3) (fun b _ _ b2 => ⟨hb3b.block b b2, trivial⟩) hol)))
      have HQ3 := Lib.hid hq3
      clear el hsl hol hb3 hb3b hq3
      unfold boxed at hW3
      go_wp2_with fail
      rw [← hW3]
      clear hW3
      refine (HPR.out _ (by have := HSZ.out; omega) (HT.out _ HB3b.out).1).mono ?_
      rintro e w4 ⟨⟨kr, nr, sr, ar, mr, cr, Hr, xr, rfl, er, hsr, hor, hb4⟩, _⟩
      obtain ⟨W4, hW4⟩ : ∃ W4, W4 = boxed w4 kr nr sr (.slice ar mr cr) := ⟨_, rfl⟩
      have hb4b : Below w4.heap.size w4 W4 := by rw [hW4]; exact boxed_below _ _ _ _ _
      have hq4 : W4.heap[w4.heap.size]? = some (trow kr nr sr (.slice ar mr cr)) := by rw [hW4]; exact heap_new _ _ rfl
      have hz4 := hb4.size
      have hz4b := hb4b.size
      have hB4 : Below W3.heap.size W3 W4 := bel_two hb4 hb4b
      have hq34 := (hB4.block w3.heap.size (Array.getElem?_eq_some_iff.1 HQ3.out).1).trans HQ3.out
      have HB4b := Lib.hid (bel_two HB3b.out hB4)
      have HOR := Lib.hid (And.intro er (And.intro hsr (OwnR.keep (Q := fun _ => True) (Q' := fun _ => True) (w' := W4) (fun b _ _ b2 => ⟨hb4b.block b b2, trivial⟩) hor)))
      have HOL4 := Lib.hid (OwnR.keep (Q := fun _ => True) (Q' := fun _ => True) (w' := W4) (fun b _ _ b2 => ⟨hB4.block b (by omega), trivial⟩) HOL.out.2.2)
      have hres := (HB4b.out.block w.heap.size (by have := HWS.out; omega)).trans HR.out
      obtain ⟨a0, a1, a2, a3⟩ := cells_of4L hq34
      obtain ⟨b0, b1, b2, b3⟩ := cells_of4L hq4
      obtain ⟨z0, z1, z2, z3, z4, z5, z6, z7, z8⟩ := cells_of9 hres
      have fz := fun j => frozen_of_row W4 w.heap.size j _ _ hres
      have y0 := fz 0
      have y1 := fz 1
      have y2 := fz 2
      have y3 := fz 3
      have y4 := fz 4
      have y5 := fz 5
      have y6 := fz 6
      have y7 := fz 7
      have y8 := fz 8
      have HRES := Lib.hid hres
      clear er hsr hor hb4 hb4b hB4 hq34 hq4 hres fz
      rw [hW4] at a0 a1 a2 a3 b0 b1 b2 b3 z0 z1 z2 z3 z4 z5 z6 z7 z8 y0 y1 y2 y3 y4 y5 y6 y7 y8
      unfold boxed at hW4 a0 a1 a2 a3 b0 b1 b2 b3 z0 z1 z2 z3 z4 z5 z6 z7 z8 y0 y1 y2 y3 y4 y5 y6 y7 y8
      cases okL with
      | false =>
        have HM := Lib.hid (HTRY.out.1 (Or.inl rfl))
        go_wp2
        rw [← hW4]
        go_roundw
        case rel => exact ⟨k + 1, by omega, by omega, by go_num, Lib.hid (fun j h1 h2 => by
          by_cases h3 : j = k
          · rw [h3]; exact HM.out
          · exact HNO.out j h1 (by omega)), HB4b⟩
        case measure => simp [intOf]; omega
      | true =>
        cases okR with
        | false =>
          have HM := Lib.hid (HTRY.out.1 (Or.inr rfl))
          go_wp2
          rw [← hW4]
          go_roundw
          case rel => exact ⟨k + 1, by omega, by omega, by go_num, Lib.hid (fun j h1 h2 => by
            by_cases h3 : j = k
            · rw [h3]; exact HM.out
            · exact HNO.out j h1 (by omega)), HB4b⟩
          case measure => simp [intOf]; omega
        | true =>
          have HM := Lib.hid (parG_at hk1 hk3 HNO.out (HTRY.out.2.1 rfl rfl))
          have HF := Lib.hid (fun y0 y1 y2 y3 y4 y5 y6 y7 y8 => resG_yes (s := s) (w := w) (wE := W4) (wA := W) (wB := W) (b := w.heap.size) (by rw [HM.out, HOL.out.1, HOR.out.1]) HOL.out.2.1 HOR.out.2.1 HOL4.out (HOR.out.2.2.wide (Nat.le_refl _) hz4b) (Nat.le_refl _) (by have := HB2.out.size; have := HWS.out; omega) hz3 hz3b (by omega) (HB0.out.trans (HB4b.out.mono HB0.out.size)) y0 y1 y2 y3 y4 y5 y6 y7 y8)
          go_wp2
          rw [← hW4]
          (try simp only [Exit.inBlock, Exit.then])
          refine bodyPost_ret (v := .tuple #[gv k kl nl sl (.slice al ml cl) kr nr sr (.slice ar mr cr), .bool true]) ?hr1 rfl ?_
          case hr1 =>
            rw [results_ctG (a := 2) (b := 3) (t := 28) (ad := ⟨w.heap.size, 0, none⟩) (x := gv k kl nl sl (.slice al ml cl) kr nr sr (.slice ar mr cr)) rfl rfl]
            · rfl
            · obtain ⟨l0, l1, l2, l3, l4, l5, l6, l7, l8⟩ := cells_of9 (setall9 HRES.out (.int .i64 k) (.int .i64 kl) (.int .i64 nl) (.string sl) (.slice al ml cl) (.int .i64 kr) (.int .i64 nr) (.string sr) (.slice ar mr cr))
              go_simp
          exact HF.out _ _ _ _ _ _ _ _ _
    · have hk : k = 4 := by omega
      subst hk
      have hres := (HB.out.block w.heap.size (by have := HWS.out; omega)).trans HR.out
      obtain ⟨z0, z1, z2, z3, z4, z5, z6, z7, z8⟩ := cells_of9 hres
      have fz := fun j => frozen_of_row wr w.heap.size j _ _ hres
      have y0 := fz 0
      have y1 := fz 1
      have y2 := fz 2
      have y3 := fz 3
      have y4 := fz 4
      have y5 := fz 5
      have y6 := fz 6
      have y7 := fz 7
      have y8 := fz 8
      have HF := Lib.hid (fun y0 y1 y2 y3 y4 y5 y6 y7 y8 => resG_no (s := s) (w := w) (w1 := w) (b := 0) (fun j h1 h2 => HNO.out j h1 (by omega)) (set9_all hres y0 y1 y2 y3 y4 y5 y6 y7 y8 (HB0.out.trans (HB.out.mono HB0.out.size)) (Nat.le_refl _)))
      have HRES := Lib.hid hres
      clear fz hres
      go_wp2
      (try simp only [Exit.inBlock, Exit.then])
      refine bodyPost_ret (v := .tuple #[gv 0 0 0 ByteArray.empty (.slice none 0 0) 0 0 ByteArray.empty (.slice none 0 0), .bool false]) ?hr2 rfl ?_
      case hr2 =>
        rw [results_ctG (a := 2) (b := 3) (t := 28) (ad := ⟨w.heap.size, 0, none⟩) (x := gv 0 0 0 ByteArray.empty (.slice none 0 0) 0 0 ByteArray.empty (.slice none 0 0)) rfl rfl]
        · rfl
        · obtain ⟨l0, l1, l2, l3, l4, l5, l6, l7, l8⟩ := cells_of9 (setall9 HRES.out (.int .i64 0) (.int .i64 0) (.int .i64 0) (.string ⟨#[]⟩) (.slice none 0 0) (.int .i64 0) (.int .i64 0) (.string ⟨#[]⟩) (.slice none 0 0))
          go_simp
          try rfl
      exact HF.out _ _ _ _ _ _ _ _ _

end Go.Proofs.YtidbokheeieifaaGreatDoor
