/-
  The library's comparisons (cmp.Compare, strings.Compare, cmp.Or), and impl.compareNodes on them.
  impl.argsOf returns the row of all arguments of a row of terms, in memory of the call's own.
  The first level of a walk level by level. No walk.
  impl.argsOf over a level that the caller owns, whose terms lie in an earlier world: the level below is again owned, its terms in that world.
-/
import Derived.Test.YtidbokheeieifaaQ29
import Derived.Test.YtidbokheeieifaaQ5
import Derived.Lib.Bytealg
import Derived.Laws.OwnMore
import Derived.Deep.LoopGhost
namespace Go.Proofs.Ytidbokheeieifaa
open Go.RowKit

set_option maxRecDepth 100000 in
set_option maxHeartbeats 400000 in
theorem nan_any (a : Int) (w : World) : Calls Try.prog 169 #[.int .i64 a] w fun e w' => e = .returned (.bool false) ∧ w' = w := by
  go_enter Try.func169, Try.ntmps169
  go_wp2
  go_ret
  exact ⟨by simp, rfl⟩

set_option maxRecDepth 100000 in
set_option maxHeartbeats 800000 in
theorem cmpInt_any (a b : Int) (w : World) : Calls Try.prog 161 #[.int .i64 a, .int .i64 b] w fun e w' => e = .returned (.int .i64 (cmpI a b)) ∧ w' = w := by
  have hc : (a < b ∧ cmpI a b = -1) ∨ (¬ a < b ∧ b < a ∧ cmpI a b = 1) ∨ (¬ a < b ∧ ¬ b < a ∧ cmpI a b = 0) := by
    unfold cmpI
    by_cases h1 : a < b
    · simp [h1]
    · by_cases h2 : b < a
      · simp [h1, h2]
      · simp [h1, h2]
  rcases hc with ⟨h1, e⟩ | ⟨h1, h2, e⟩ | ⟨h1, h2, e⟩ <;> rw [e] <;> clear e
  · go_enter Try.func161, Try.ntmps161
    go_wp2_with (go_at_call 169; refine (nan_any _ _).mono ?_; rintro e w1 ⟨rfl, rfl⟩)
    go_ret
    exact ⟨rfl, rfl⟩
  · go_enter Try.func161, Try.ntmps161
    go_wp2_with (go_at_call 169; refine (nan_any _ _).mono ?_; rintro e w1 ⟨rfl, rfl⟩)
    go_ret
    exact ⟨rfl, rfl⟩
  · go_enter Try.func161, Try.ntmps161
    go_wp2_with (go_at_call 169; refine (nan_any _ _).mono ?_; rintro e w1 ⟨rfl, rfl⟩)
    go_ret
    exact ⟨rfl, rfl⟩

theorem bytes_cmp : ∀ (a b : List UInt8), (Lib.compareBytes a b = -1 ∧ a < b) ∨ (Lib.compareBytes a b = 1 ∧ b < a) ∨ (Lib.compareBytes a b = 0 ∧ a = b)
  | [], [] => by simp [Lib.compareBytes]
  | [], _ :: _ => by simp [Lib.compareBytes]
  | _ :: _, [] => by simp [Lib.compareBytes]
  | x :: a, y :: b => by
    unfold Lib.compareBytes
    by_cases h1 : x < y
    · simp [h1, List.cons_lt_cons_iff]
    · by_cases h2 : y < x
      · simp [h1, h2, List.cons_lt_cons_iff]
      · have e : x = y := UInt8.le_antisymm (UInt8.not_lt.1 h2) (UInt8.not_lt.1 h1)
        subst e
        simp only [h1, if_false]
        rcases bytes_cmp a b with ⟨h, k⟩ | ⟨h, k⟩ | ⟨h, k⟩
        · exact Or.inl ⟨h, List.cons_lt_cons_iff.2 (Or.inr ⟨rfl, k⟩)⟩
        · exact Or.inr (Or.inl ⟨h, List.cons_lt_cons_iff.2 (Or.inr ⟨rfl, k⟩)⟩)
        · exact Or.inr (Or.inr ⟨h, by rw [k]⟩)
theorem bytes_cmpS (a b : ByteArray) : Lib.compareBytes a.data.toList b.data.toList = cmpS a b := by
  unfold cmpS
  rcases bytes_cmp (key a) (key b) with ⟨h, k⟩ | ⟨h, k⟩ | ⟨h, k⟩
  · rw [if_pos k]; exact h
  · have : ¬ key a < key b := fun q => lt_irr _ (lt_tr q k)
    rw [if_neg this, if_pos k]; exact h
  · rw [if_neg (by rw [k]; exact lt_irr _), if_neg (by rw [k]; exact lt_irr _)]; exact h

set_option maxRecDepth 100000 in
set_option maxHeartbeats 400000 in
theorem cmpStr1_any (a b : ByteArray) (w : World) : Calls Try.prog 170 #[.string a, .string b] w fun e w' => e = .returned (.int .i64 (cmpS a b)) ∧ w' = w := by
  rw [← bytes_cmpS]
  go_enter Try.func170, Try.ntmps170
  go_wp2
  rw [run_callFunc_extern Try.func183 (by kernel_rfl) (by kernel_rfl) (by kernel_rfl) (e := Extern.BytealgCompare.compare) (by kernel_rfl), Lib.run_compareString]
  simp only [Result.andThen]
  rw [Oper.upon_value]
  go_wp2
  go_ret
  exact ⟨rfl, rfl⟩
set_option maxRecDepth 100000 in
set_option maxHeartbeats 400000 in
theorem cmpStr_any (a b : ByteArray) (w : World) : Calls Try.prog 162 #[.string a, .string b] w fun e w' => e = .returned (.int .i64 (cmpS a b)) ∧ w' = w := by
  go_enter Try.func162, Try.ntmps162
  go_wp2_with (go_at_call 170; refine (cmpStr1_any _ _ _).mono ?_; rintro e w1 ⟨rfl, rfl⟩)
  go_ret
  exact ⟨rfl, rfl⟩

set_option maxRecDepth 100000 in
set_option maxHeartbeats 1600000 in
theorem or4_any (z0 z1 z2 z3 : Int) (b : Nat) (w : World) (c0 : w.cell? ⟨b, 0, none⟩ = some (.int .i64 z0)) (c1 : w.cell? ⟨b, 1, none⟩ = some (.int .i64 z1)) (c2 : w.cell? ⟨b, 2, none⟩ = some (.int .i64 z2)) (c3 : w.cell? ⟨b, 3, none⟩ = some (.int .i64 z3)) :
    Calls Try.prog 160 #[.slice (some ⟨b, 0, none⟩) 4 4] w fun e w' => e = .returned (.int .i64 (nz [z0, z1, z2, z3])) ∧ w' = w := by
  have hcl : ∀ (j : Nat) (z : Int), [z0, z1, z2, z3][j]? = some z → w.cell? ⟨b, j, none⟩ = some (.int .i64 z) := by
    intro j z hz
    match j, hz with
    | 0, hz => simp at hz; subst hz; exact c0
    | 1, hz => simp at hz; subst hz; exact c1
    | 2, hz => simp at hz; subst hz; exact c2
    | 3, hz => simp at hz; subst hz; exact c3
    | j + 4, hz => simp at hz
  have HCL := Lib.hid hcl; clear hcl c0 c1 c2 c3
  obtain ⟨L, hL⟩ : ∃ L, L = [z0, z1, z2, z3] := ⟨_, rfl⟩
  have hLl : L.length = 4 := by rw [hL]; rfl
  rw [← hL] at HCL ⊢
  have HLL := Lib.hid hLl; clear hLl hL z0 z1 z2 z3
  go_enter Try.func160, Try.ntmps160
  go_wp2
  go_loop [5, 8] (fun _ i => ∃ j : Nat, j ≤ 4 ∧ i = .int .i64 j ∧ Hid (∀ i, i < j → L[i]? = some 0)) (fun _ i => 4 - (intOf i).toNat)
  case atStart => exact ⟨0, by omega, rfl, Lib.hid (fun i hi => by omega)⟩
  case round =>
    obtain ⟨j, hj, rfl, HZ⟩ := hrel
    by_cases hlt : j < 4
    · obtain ⟨z, hz⟩ : ∃ z, L[j]? = some z := ⟨_, List.getElem?_eq_getElem (by have := HLL.out; omega)⟩
      have hcell := HCL.out j z hz
      have HZ2 := Lib.hid hz; clear hz
      by_cases hz0 : z = 0
      · subst hz0
        go_wp2
        go_round
        case rel =>
          refine ⟨j + 1, by omega, by go_num, Lib.hid (fun i hi => ?_)⟩
          by_cases hij : i = j
          · subst hij; exact HZ2.out
          · exact HZ.out i (by omega)
        case measure => simp [intOf]; omega
      · have hz1 : (z != 0) = true := by simpa using hz0
        go_wp2
        go_ret
        exact ⟨by rw [nz_at L j z HZ.out HZ2.out hz0]; rfl, rfl⟩
    · have hj4 : j = 4 := by omega
      subst hj4
      go_wp2
      go_ret
      exact ⟨by rw [nz_all L (fun i hi => HZ.out i (by have := HLL.out; omega))]; rfl, rfl⟩

theorem alloc4 (w : World) (x0 x1 x2 x3 : Value) (t : TypeId) {n : Nat} (h : n = w.heap.size) :
    (w.alloc (.cells #[x0, x1, x2, x3] t)).drew.cell? ⟨n, 0, none⟩ = some x0 ∧ (w.alloc (.cells #[x0, x1, x2, x3] t)).drew.cell? ⟨n, 1, none⟩ = some x1 ∧
    (w.alloc (.cells #[x0, x1, x2, x3] t)).drew.cell? ⟨n, 2, none⟩ = some x2 ∧ (w.alloc (.cells #[x0, x1, x2, x3] t)).drew.cell? ⟨n, 3, none⟩ = some x3 := by
  subst h
  have e : ∀ j, (w.alloc (.cells #[x0, x1, x2, x3] t)).drew.cell? ⟨w.heap.size, j, none⟩ = #[x0, x1, x2, x3][j]? := fun j => World.cell?_alloc_mark w #[x0, x1, x2, x3] t (0, 0) j
  exact ⟨e 0, e 1, e 2, e 3⟩
theorem or4_new (z0 z1 z2 z3 : Int) (n : Nat) (w : World) (h : n = w.heap.size) :
    Calls Try.prog 160 #[.slice (some ⟨n, 0, none⟩) 4 4] (w.alloc (.cells #[.int .i64 z0, .int .i64 z1, .int .i64 z2, .int .i64 z3] 3)).drew fun e w' => e = .returned (.int .i64 (nz [z0, z1, z2, z3])) ∧ w' = (w.alloc (.cells #[.int .i64 z0, .int .i64 z1, .int .i64 z2, .int .i64 z3] 3)).drew := by
  obtain ⟨c0, c1, c2, c3⟩ := alloc4 w (.int .i64 z0) (.int .i64 z1) (.int .i64 z2) (.int .i64 z3) 3 h
  exact or4_any z0 z1 z2 z3 n _ c0 c1 c2 c3

set_option maxRecDepth 100000 in
set_option maxHeartbeats 1600000 in
theorem node_any (k n : Int) (s : ByteArray) (a : Option Addr) (m cap : Nat) (k' n' : Int) (s' : ByteArray) (a' : Option Addr) (m' cap' : Nat) (w : World) :
    Calls Try.prog 142 #[tv k n s (.slice a m cap), tv k' n' s' (.slice a' m' cap')] w (NumB (nz (headC k n s m k' n' s' m')) w) := by
  have HB0 := Lib.hid (boxed2_below w k n s (.slice a m cap) k' n' s' (.slice a' m' cap'))
  have HK : Hid (∀ w', Below (boxed2 w k n s (.slice a m cap) k' n' s' (.slice a' m' cap')).heap.size (boxed2 w k n s (.slice a m cap) k' n' s' (.slice a' m' cap')) w' → _) := Lib.hid (fun w' hb => boxed2_all hb)
  have hall := HK.out _ (Below.refl _ _)
  obtain ⟨c0, c1, c2, c3, d0, d1, d2, d3, hb0⟩ := hall
  go_enter Try.func142, Try.ntmps142
  go_wp2
  go_region_held3 (fun w' => w'.cell? ⟨w.heap.size, 0, none⟩ = some (.int .i64 k) ∧ w'.cell? ⟨w.heap.size, 1, none⟩ = some (.int .i64 n) ∧ w'.cell? ⟨w.heap.size, 2, none⟩ = some (.string s) ∧ w'.cell? ⟨w.heap.size, 3, none⟩ = some (.slice a m cap) ∧
      w'.cell? ⟨w.heap.size + 1, 0, none⟩ = some (.int .i64 k') ∧ w'.cell? ⟨w.heap.size + 1, 1, none⟩ = some (.int .i64 n') ∧ w'.cell? ⟨w.heap.size + 1, 2, none⟩ = some (.string s') ∧ w'.cell? ⟨w.heap.size + 1, 3, none⟩ = some (.slice a' m' cap') ∧
      Below (boxed2 w k n s (.slice a m cap) k' n' s' (.slice a' m' cap')).heap.size (boxed2 w k n s (.slice a m cap) k' n' s' (.slice a' m' cap')) w')
    (first | exact HK.out _ (by assumption) | exact HK.out _ (Below.drew (by assumption)) | exact HK.out _ (below_alloc2 (by assumption) (Below.size (by assumption)) _) | exact HK.out _ (below_alloc2 (Below.drew (by assumption)) (Below.size (Below.drew (by assumption))) _) | go_keep)
    (first
      | (go_at_call 161; refine (cmpInt_any _ _ _).mono ?_; rintro e w1 ⟨rfl, rfl⟩)
      | (go_at_call 162; refine (cmpStr_any _ _ _).mono ?_; rintro e w1 ⟨rfl, rfl⟩)
      | (go_at_call 160; refine (or4_new _ _ _ _ _ _ (by simp)).mono ?_; rintro e w1 ⟨rfl, rfl⟩))
  have hbe : Below w.heap.size w (((boxed2 w k n s (.slice a m cap) k' n' s' (.slice a' m' cap')).alloc (.cells #[.int .i64 (cmpI k k'), .int .i64 (cmpI n n'), .int .i64 (cmpS s s'), .int .i64 (cmpI (m : Int) (m' : Int))] 3)).drew) :=
    (HB0.out.alloc HB0.out.size _).drew
  have HBE := Lib.hid hbe; clear hbe c0 c1 c2 c3 d0 d1 d2 d3 hb0
  go_wp2
  go_ret
  exact ⟨rfl, HBE.out⟩
end Go.Proofs.Ytidbokheeieifaa
namespace Go.Proofs.Ytidbokheeieifaa
open Go.RowKit

theorem run_app_zero {P : Program} {w : World} (base : Nat) (t ty e : TypeId) (i : TypeInfo) (size : Nat) (ht : P.underlying t = some (.slice e)) (hi : P.info? e = some i)
    (v : Value) (n : Nat) (xs : List Value) (hown : w.ownsRow base e size v n xs) (ao : Option Addr) (c : Nat) :
    (Builtin.append_ #[t, t] ty #[v, .slice ao 0 c]).run P w = .ok v w := by
  rcases hown.2 with ⟨rfl, rfl⟩ | ⟨g, cap, cur, rfl, _, _, hnc, _⟩
  · cases ao <;> simp [Builtin.append_, run_underlying ht, sizeOf, typeInfo, hi, Builtin.lenOf, Builtin.firstCells, loadCells, loadCellsFrom]
  · cases ao <;> simp [Builtin.append_, run_underlying ht, sizeOf, typeInfo, hi, Builtin.lenOf, Builtin.firstCells, hnc, storeCells, loadCells, loadCellsFrom]

/-- append(own, none...) -/
theorem wpList_app_zero {P : Program} {w : World} {ops : Array Oper} {rest : List Oper} {o : Oper} {a : Act} {Q : Exit → Act → World → Prop} (hgd : o.guard = none) (s x : Operand) (t : TypeId)
    (ho : o.op = .call { callee := .builtin .append, args := #[s, x], argTypes := #[t, t] })
    (base : Nat) (e : TypeId) (i : TypeInfo) (size : Nat) (ht : P.underlying t = some (.slice e)) (hi : P.info? e = some i)
    (v : Value) (n : Nat) (xs : List Value) (hs : a.eval s = v) (hown : w.ownsRow base e size v n xs) (ao : Option Addr) (c : Nat) (hx : a.eval x = .slice ao 0 c)
    (h : wpList P ops Q rest (a.put o.dst v) w) : wpList P ops Q (o :: rest) a w := by
  refine wpList_plain hgd fun K hK => ?_
  have hrun := run_app_zero (P := P) (w := w) base t o.type e i size ht hi v n xs hown ao c
  unfold Oper.wp
  simp [execOp, ho, resolve, invoke, builtin, hs, hx, hrun, Result.andThen]
  exact hK _ _ h

theorem infoTermL : (Try.prog.info? 26).map (fun i => (i.zero, i.size, i.bytes)) = some (some (.agg #[.int .i64 0, .int .i64 0, .string ByteArray.empty, .slice none 0 0]), 4, 56) := by kernel_rfl

/-- A level of terms as a slice value. -/
def LevelAt (w : World) (v : Value) (ts : List T) : Prop := ∃ h, ArgsAt w 0 h v ts
theorem LevelAt.below {w w' : World} {v : Value} {ts : List T} (l : LevelAt w v ts) (hb : Below w.heap.size w w') : LevelAt w' v ts := by
  obtain ⟨h, ha⟩ := l
  exact ⟨h, ha.below hb⟩
theorem LevelAt.slice {w : World} {v : Value} {ts : List T} (l : LevelAt w v ts) : ∃ a cap, v = .slice a ts.length cap := by
  obtain ⟨h, ha⟩ := l
  exact ha.slice

def KidsEnd (ts : List T) (w : World) (e : Ending) (w' : World) : Prop :=
  ∃ u, e = .returned u ∧ LevelAt w' u (kids ts) ∧ Below w.heap.size w w'

/-- How far argsOf has come. -/
def KidsRel (h : Nat) (ts : List T) (k : Nat) (v : Value) (w wr : World) : Prop :=
  ∃ vs, wr.ownsRow w.heap.size 26 4 v (kids (ts.take k)).length vs ∧ RowV w (h - 1) (kids (ts.take k)) vs ∧ Below w.heap.size w wr

set_option maxRecDepth 100000 in
set_option maxHeartbeats 1600000 in
theorem argsOf_anyK (v : Value) (ts : List T) (w : World) (hl : LevelAt w v ts) (hk : (kids ts).length ≤ 4294967296) (ht : ts.length ≤ 8589934592) :
    Calls Try.prog 139 #[v] w (KidsEnd ts w) := by
  obtain ⟨h, ha⟩ := hl
  obtain ⟨a, cap, rfl⟩ := ha.slice
  obtain ⟨i0, hi, hz0, hz1, hz2⟩ := info_parts infoTermL
  have HI := Lib.hid hi; clear hi
  have HZ0 := Lib.hid hz0; clear hz0
  have HZ1 := Lib.hid hz1; clear hz1
  have HZ2 := Lib.hid hz2; clear hz2
  have HA := Lib.hid ha; clear ha
  have HK := Lib.hid hk; clear hk
  obtain ⟨m, hm⟩ : ∃ m, m = ts.length := ⟨_, rfl⟩
  rw [← hm] at HA ⊢ ht
  have HM := Lib.hid hm; clear hm
  go_enter Try.func139, Try.ntmps139
  go_wp2
  go_loopw [3, 8] (fun b i wr => ∃ k : Nat, k ≤ m ∧ i = .int .i64 k ∧ Hid (KidsRel (h - 1) ts k b w wr)) (fun _ i _ => m - (intOf i).toNat)
  case atStart => exact ⟨0, Nat.zero_le _, rfl, Lib.hid ⟨[], World.ownsRow_nil _ _ _ _, rfl, Below.refl _ _⟩⟩
  case round =>
    obtain ⟨k, hk, rfl, HR⟩ := hrel
    by_cases hlt : k < m
    · obtain ⟨t, ht⟩ : ∃ t, ts[k]? = some t := ⟨_, List.getElem?_eq_getElem (by have := HM.out; omega)⟩
      obtain ⟨h', b, o, kk, nn, s, xs, u', eh, rfl, rfl, hsz, c0, c1, c2, c3, har⟩ := HA.out.at ht
      obtain ⟨a', cap', rfl⟩ := har.slice
      obtain ⟨vs, ho, hv, hb⟩ := HR.out
      have d0 := cell_on hb c0
      have d1 := cell_on hb c1
      have d2 := cell_on hb c2
      have d3 := cell_on hb c3
      clear c0 c1 c2 c3
      have HTK : Hid (kids (ts.take (k + 1)) = kids (ts.take k) ++ xs) := Lib.hid (by rw [tk ts k _ ht, kids_snoc]; rfl)
      have hle := kids_take ts (k + 1)
      have hlx : (kids (ts.take k)).length + xs.length ≤ 4294967296 := by
        rw [HTK.out, List.length_append] at hle
        have := HK.out; omega
      clear hle ht
      obtain ⟨n, hn⟩ : ∃ n, n = (kids (ts.take k)).length := ⟨_, rfl⟩
      rw [← hn] at ho hlx
      have HN := Lib.hid hn; clear hn
      have HO := Lib.hid ho; clear ho
      have HV := Lib.hid hv; clear hv
      have HB := Lib.hid hb; clear hb
      have HBX : Hid (Below w.heap.size w (wr.alloc (.cells #[.int .i64 kk, .int .i64 nn, .string s, .slice a' xs.length cap'] 26))) := Lib.hid (HB.out.alloc HB.out.size _)
      have HHA := Lib.hid har; clear har
      have HHE := Lib.hid eh; clear eh
      rcases HHA.out.cases with ⟨hnil, _⟩ | ⟨h2, b2, o2, cap2, e2, e3, hl3, _, hrow⟩
      · have hx0 : xs.length = 0 := by rw [hnil]; rfl
        rw [hx0] at d3 HBX
        go_wp2_with (first | (at_builtin; refine wpList_app_zero rfl (.tmp 12) (.tmp 14) 24 rfl w.heap.size 26 i0 4 Try.underlying24 HI.out _ _ _ rfl (HO.out.alloc _) _ _ rfl ?_))
        go_roundw
        case rel =>
          refine ⟨k + 1, by omega, by go_num, Lib.hid ⟨vs, ?_, ?_, HBX.out⟩⟩
          · rw [HTK.out, hnil, List.append_nil, ← HN.out]
            exact HO.out.alloc _
          · rw [HTK.out, hnil, List.append_nil]
            exact HV.out
        case measure => simp [intOf]; omega
      · obtain ⟨ws, hws, hwc⟩ := RowV.of_row hrow
        have hwl := hws.len
        cases e3
        have hwc' : ∀ (j : Nat) (u : Value), ws[j]? = some u → (wr.alloc (.cells #[.int .i64 kk, .int .i64 nn, .string s, .slice (some ⟨b2, o2, none⟩) xs.length cap'] 26)).cell? (Addr.add ⟨b2, o2, none⟩ j) = some u := fun j u hj => cell_on HBX.out (hwc j u hj)
        have HWC := Lib.hid hwc'; clear hwc' hwc
        have HWL := Lib.hid hwl; clear hwl
        have HWS := Lib.hid hws; clear hws
        clear hrow
        obtain ⟨mx, hmx⟩ : ∃ mx, mx = xs.length := ⟨_, rfl⟩
        rw [← hmx] at hlx d3 HBX HWC HWL
        have HMX := Lib.hid hmx; clear hmx
        go_wp2_with (first | (at_builtin; refine wpList_append_own _ rfl (.tmp 12) (.tmp 14) 24 rfl w.heap.size 26 i0 (.agg #[.int .i64 0, .int .i64 0, .string ByteArray.empty, .slice none 0 0]) 4 56 Try.underlying24 HI.out HZ0.out HZ1.out HZ2.out rfl (by decide) _ _ _ rfl (HO.out.alloc _) ⟨b2, o2, none⟩ mx cap' ws rfl HWL.out HWC.out HWS.out.one (by unfold maxLen; omega) (by omega) HBX.out.size ?_))
        intro v' w1 hown' hgr _
        have hb1 : Below w.heap.size w w1 := HBX.out.grown hgr HBX.out.size (fun j hj => (HO.out.lt j hj).1)
        have HO1 := Lib.hid hown'; clear hown'
        have HB1 := Lib.hid hb1; clear hb1 hgr
        go_wp2
        go_roundw
        case rel =>
          refine ⟨k + 1, by omega, by go_num, Lib.hid ⟨vs ++ ws, ?_, ?_, HB1.out⟩⟩
          · rw [HTK.out, List.length_append, ← HN.out, ← HMX.out]
            exact HO1.out
          · rw [HTK.out, show h - 1 - 1 = h2 by have := HHE.out; omega]
            exact HWS.out.app (by have := HV.out; rw [show h - 1 - 1 = h2 by have := HHE.out; omega] at this; exact this)
        case measure => simp [intOf]; omega
    · obtain ⟨vs, ho, hv, hb⟩ := HR.out
      rw [show ts.take k = ts from by rw [List.take_of_length_le]; have := HM.out; omega] at ho hv
      have HE := Lib.hid (show LevelAt wr _ (kids ts) from ⟨_, (hv.below hb).args ho rfl (by have := HK.out; unfold maxLen; omega)⟩)
      have HB := Lib.hid hb
      clear ho hv hb
      go_wp2
      go_ret
      exact ⟨_, rfl, HE.out, HB.out⟩

theorem argsOf_any (v : Value) (ts : List T) (w : World) (hl : LevelAt w v ts) (hk : (kids ts).length ≤ 1048576) (ht : ts.length ≤ 2097152) :
    Calls Try.prog 139 #[v] w (KidsEnd ts w) := argsOf_anyK v ts w hl (by omega) (by omega)
end Go.Proofs.Ytidbokheeieifaa
namespace Go.Proofs.Ytidbokheeieifaa
open Go.RowKit

/-- A term in a row of one cell's length. -/
theorem LevelAt.single {w : World} {h : Nat} {k n : Int} {s : ByteArray} {u : Value} {xs : List T} (b : Nat) (hs : s.size ≤ maxLen) (ha : ArgsAt w 0 h u xs)
    (c0 : w.cell? ⟨b, 0, none⟩ = some (.int .i64 k)) (c1 : w.cell? ⟨b, 1, none⟩ = some (.int .i64 n)) (c2 : w.cell? ⟨b, 2, none⟩ = some (.string s)) (c3 : w.cell? ⟨b, 3, none⟩ = some u) :
    LevelAt w (.slice (some ⟨b, 0, none⟩) 1 1) [.node k n s xs] := by
  refine ⟨h + 1, some ⟨b, 0, none⟩, 1, rfl, by simp [maxLen], Or.inr ⟨b, 0, rfl, Nat.zero_le _, fun i k' n' s' xs' hi => ?_⟩⟩
  match i, hi with
  | 0, hi =>
    simp at hi
    obtain ⟨rfl, rfl, rfl, rfl⟩ := hi
    exact ⟨hs, u, c0, c1, c2, c3, ha⟩
  | i + 1, hi => simp at hi

/-- The first level: the term alone, in a block behind its box. -/
theorem level_first (w : World) {lo h : Nat} {k n : Int} {s : ByteArray} {u : Value} {xs : List T} (hs : s.size ≤ maxLen) (ha : ArgsAt w lo h u xs) :
    LevelAt ((boxed w k n s u).alloc (.cells #[.int .i64 k, .int .i64 n, .string s, u] 26)) (.slice (some ⟨w.heap.size + 1, 0, none⟩) 1 1) [.node k n s xs] := by
  have hbs : (boxed w k n s u).heap.size = w.heap.size + 1 := by simp
  rw [← hbs]
  have hb : Below w.heap.size w (boxed (boxed w k n s u) k n s u) := (boxed_below w k n s u).trans ((boxed_below _ k n s u).mono (boxed_below w k n s u).size)
  obtain ⟨c0, c1, c2, c3⟩ := boxed_cells (Below.refl _ (boxed (boxed w k n s u) k n s u))
  exact LevelAt.single _ hs ((ha.low (Nat.zero_le _)).below hb) c0 c1 c2 c3

theorem single_c (t : T) : cS [t] = cT t := by simp [cS]
theorem single_d (t : T) : dS [t] = dT t := by simp [dS]
end Go.Proofs.Ytidbokheeieifaa
namespace Go.Proofs.Ytidbokheeieifaa
open Go.RowKit

/-- A level of terms: a row of cells in w, the terms' arguments in the earlier world w0. -/
def LvlAt (w0 w : World) (v : Value) (ts : List T) : Prop := ∃ h ls a cap, v = .slice a ts.length cap ∧ RowV w0 h ts ls ∧ (ts = [] ∨ ∃ b o, a = some ⟨b, o, none⟩ ∧ ∀ (j : Nat) (u : Value), ls[j]? = some u → w.cell? ⟨b, o + j, none⟩ = some u)
/-- The same, in memory of the caller's own, from block B on. -/
def LvlOwn (B : Nat) (w0 w : World) (v : Value) (ts : List T) : Prop := ∃ h ls, RowV w0 h ts ls ∧ w.ownsRow B 26 4 v ts.length ls

theorem LvlOwn.at {B : Nat} {w0 w : World} {v : Value} {ts : List T} (l : LvlOwn B w0 w v ts) : LvlAt w0 w v ts := by
  obtain ⟨h, ls, hr, ho⟩ := l
  rcases ho.2 with hnil | ⟨g, cap, cur, rfl, _⟩
  · obtain ⟨rfl, h0⟩ := hnil
    have : ts = [] := List.eq_nil_of_length_eq_zero (by omega)
    subst this
    exact ⟨h, ls, none, 0, rfl, hr, Or.inl rfl⟩
  · refine ⟨h, ls, _, cap, rfl, hr, Or.inr ⟨g, 0, rfl, fun j u hj => ?_⟩⟩
    have hl := (List.getElem?_eq_some_iff.1 hj).1
    have := ho.1
    rw [Nat.zero_add, ho.cellAt j (by omega), hj]
theorem LvlOwn.below {B : Nat} {w0 w w' : World} {v : Value} {ts : List T} (l : LvlOwn B w0 w v ts) (hb : Below w.heap.size w w') : LvlOwn B w0 w' v ts := by
  obtain ⟨h, ls, hr, ho⟩ := l
  exact ⟨h, ls, hr, keep_own ho hb⟩
theorem LvlOwn.low {B B' : Nat} {w0 w : World} {v : Value} {ts : List T} (l : LvlOwn B w0 w v ts) (hb : B' ≤ B) : LvlOwn B' w0 w v ts := by
  obtain ⟨h, ls, hr, ho⟩ := l
  exact ⟨h, ls, hr, own_low ho hb⟩
/-- Rows of other elements lie in other blocks. -/
theorem keep_type {w w' : World} {A B n m size size' : Nat} {e f : TypeId} {v u : Value} {xs ys : List Value} (h : w.ownsRow A e size v n xs) (hu : w.ownsRow B f size' u m ys) (hne : e ≠ f) (hg : w.grownBy w' u.ownBlock) : w'.ownsRow A e size v n xs :=
  h.kept hg (by
    rcases h.2 with hnil | ⟨g, cap, cur, rfl, _, hc, _⟩
    · rw [hnil.1]; exact Or.inl rfl
    · refine Or.inr fun e2 => ?_
      rcases hu.2 with hnil | ⟨g', cap', cur', rfl, _, hc', _⟩
      · rw [hnil.1] at e2; cases e2
      · cases e2
        rw [hc] at hc'
        cases hc'
        exact hne rfl)
theorem LvlOwn.other {A B m size : Nat} {w0 w w' : World} {v u : Value} {ts : List T} {ys : List Value} {f : TypeId} (l : LvlOwn A w0 w v ts) (hu : w.ownsRow B f size u m ys) (hne : 26 ≠ f) (hg : w.grownBy w' u.ownBlock) : LvlOwn A w0 w' v ts := by
  obtain ⟨h, ls, hr, ho⟩ := l
  exact ⟨h, ls, hr, keep_type ho hu hne hg⟩

theorem lvl_cells {w0 w : World} {h : Nat} {ls : List Value} {a : Option Addr} {ts : List T} {i : Nat} {t : T} (hr : RowV w0 h ts ls) (hc : ts = [] ∨ ∃ b o, a = some ⟨b, o, none⟩ ∧ ∀ (j : Nat) (u : Value), ls[j]? = some u → w.cell? ⟨b, o + j, none⟩ = some u) (ht : ts[i]? = some t) :
    ∃ b o k n s xs a' c', a = some ⟨b, o, none⟩ ∧ t = .node k n s xs ∧ s.size ≤ maxLen ∧ w.cell? ⟨b, o + i * 4, none⟩ = some (.int .i64 k) ∧ w.cell? ⟨b, o + i * 4 + 1, none⟩ = some (.int .i64 n) ∧
      w.cell? ⟨b, o + i * 4 + 2, none⟩ = some (.string s) ∧ w.cell? ⟨b, o + i * 4 + 3, none⟩ = some (.slice a' xs.length c') ∧ ArgsAt w0 0 h (.slice a' xs.length c') xs := by
  rcases hc with rfl | ⟨b, o, rfl, hc⟩
  · simp at ht
  · obtain ⟨k, n, s, xs⟩ := t
    obtain ⟨hs, a', m', c', x0, x1, x2, x3, ha⟩ := hr.at i k n s xs ht
    obtain ⟨a2, c2, e⟩ := ha.slice
    cases e
    refine ⟨b, o, k, n, s, xs, a', c', rfl, rfl, hs, hc _ _ x0, ?_, ?_, ?_, ha⟩
    · have := hc _ _ x1; rw [← Nat.add_assoc] at this; exact this
    · have := hc _ _ x2; rw [← Nat.add_assoc] at this; exact this
    · have := hc _ _ x3; rw [← Nat.add_assoc] at this; exact this

/-- How far argsOf has come. -/
def KidsRelG (h : Nat) (ts : List T) (k : Nat) (v : Value) (w0 w wr : World) : Prop :=
  ∃ vs, wr.ownsRow w.heap.size 26 4 v (kids (ts.take k)).length vs ∧ RowV w0 (h - 1) (kids (ts.take k)) vs ∧ Below w.heap.size w wr
def KidsOwn (w0 : World) (ts : List T) (w : World) (e : Ending) (w' : World) : Prop :=
  ∃ u, e = .returned u ∧ LvlOwn w.heap.size w0 w' u (kids ts) ∧ Below w.heap.size w w'

set_option maxRecDepth 100000 in
set_option maxHeartbeats 1600000 in
theorem argsOf_ownK (v : Value) (ts : List T) (w0 w : World) (hl : LvlAt w0 w v ts) (hb0 : Below w0.heap.size w0 w) (hk : (kids ts).length ≤ 4294967296) (ht : ts.length ≤ 8589934592) :
    Calls Try.prog 139 #[v] w (KidsOwn w0 ts w) := by
  obtain ⟨h, ls, a, cap, rfl, ha, hcl⟩ := hl
  have HCL := Lib.hid hcl; clear hcl
  have HBZ := Lib.hid hb0; clear hb0
  obtain ⟨i0, hi, hz0, hz1, hz2⟩ := info_parts infoTermL
  have HI := Lib.hid hi; clear hi
  have HZ0 := Lib.hid hz0; clear hz0
  have HZ1 := Lib.hid hz1; clear hz1
  have HZ2 := Lib.hid hz2; clear hz2
  have HA := Lib.hid ha; clear ha
  have HK := Lib.hid hk; clear hk
  obtain ⟨m, hm⟩ : ∃ m, m = ts.length := ⟨_, rfl⟩
  rw [← hm] at ht ⊢
  have HM := Lib.hid hm; clear hm
  go_enter Try.func139, Try.ntmps139
  go_wp2
  go_loopw [3, 8] (fun b i wr => ∃ k : Nat, k ≤ m ∧ i = .int .i64 k ∧ Hid (KidsRelG h ts k b w0 w wr)) (fun _ i _ => m - (intOf i).toNat)
  case atStart => exact ⟨0, Nat.zero_le _, rfl, Lib.hid ⟨[], World.ownsRow_nil _ _ _ _, rfl, Below.refl _ _⟩⟩
  case round =>
    obtain ⟨k, hk, rfl, HR⟩ := hrel
    by_cases hlt : k < m
    · obtain ⟨t, ht⟩ : ∃ t, ts[k]? = some t := ⟨_, List.getElem?_eq_getElem (by have := HM.out; omega)⟩
      obtain ⟨b, o, kk, nn, s, xs, a', cap', rfl, rfl, hsz, c0, c1, c2, c3, har⟩ := lvl_cells HA.out HCL.out ht
      obtain ⟨vs, ho, hv, hb⟩ := HR.out
      have d0 := cell_on hb c0
      have d1 := cell_on hb c1
      have d2 := cell_on hb c2
      have d3 := cell_on hb c3
      clear c0 c1 c2 c3
      have HTK : Hid (kids (ts.take (k + 1)) = kids (ts.take k) ++ xs) := Lib.hid (by rw [tk ts k _ ht, kids_snoc]; rfl)
      have hle := kids_take ts (k + 1)
      have hlx : (kids (ts.take k)).length + xs.length ≤ 4294967296 := by
        rw [HTK.out, List.length_append] at hle
        have := HK.out; omega
      clear hle ht
      obtain ⟨n, hn⟩ : ∃ n, n = (kids (ts.take k)).length := ⟨_, rfl⟩
      rw [← hn] at ho hlx
      have HN := Lib.hid hn; clear hn
      have HO := Lib.hid ho; clear ho
      have HV := Lib.hid hv; clear hv
      have HB := Lib.hid hb; clear hb
      have HBX : Hid (Below w.heap.size w (wr.alloc (.cells #[.int .i64 kk, .int .i64 nn, .string s, .slice a' xs.length cap'] 26))) := Lib.hid (HB.out.alloc HB.out.size _)
      have HHA := Lib.hid har; clear har
      rcases HHA.out.cases with ⟨hnil, _⟩ | ⟨h2, b2, o2, cap2, e2, e3, hl3, _, hrow⟩
      · have hx0 : xs.length = 0 := by rw [hnil]; rfl
        rw [hx0] at d3 HBX
        go_wp2_with (first | (at_builtin; refine wpList_app_zero rfl (.tmp 12) (.tmp 14) 24 rfl w.heap.size 26 i0 4 Try.underlying24 HI.out _ _ _ rfl (HO.out.alloc _) _ _ rfl ?_))
        go_roundw
        case rel =>
          refine ⟨k + 1, by omega, by go_num, Lib.hid ⟨vs, ?_, ?_, HBX.out⟩⟩
          · rw [HTK.out, hnil, List.append_nil, ← HN.out]
            exact HO.out.alloc _
          · rw [HTK.out, hnil, List.append_nil]
            exact HV.out
        case measure => simp [intOf]; omega
      · have HHE := Lib.hid e2; clear e2
        obtain ⟨ws, hws, hwc⟩ := RowV.of_row hrow
        have hwl := hws.len
        cases e3
        have hwc' : ∀ (j : Nat) (u : Value), ws[j]? = some u → (wr.alloc (.cells #[.int .i64 kk, .int .i64 nn, .string s, .slice (some ⟨b2, o2, none⟩) xs.length cap'] 26)).cell? (Addr.add ⟨b2, o2, none⟩ j) = some u := fun j u hj => cell_on (HBZ.out.trans (HBX.out.mono HBZ.out.size)) (hwc j u hj)
        have HWC := Lib.hid hwc'; clear hwc' hwc
        have HWL := Lib.hid hwl; clear hwl
        have HWS := Lib.hid hws; clear hws
        clear hrow
        obtain ⟨mx, hmx⟩ : ∃ mx, mx = xs.length := ⟨_, rfl⟩
        rw [← hmx] at hlx d3 HBX HWC HWL
        have HMX := Lib.hid hmx; clear hmx
        go_wp2_with (first | (at_builtin; refine wpList_append_own _ rfl (.tmp 12) (.tmp 14) 24 rfl w.heap.size 26 i0 (.agg #[.int .i64 0, .int .i64 0, .string ByteArray.empty, .slice none 0 0]) 4 56 Try.underlying24 HI.out HZ0.out HZ1.out HZ2.out rfl (by decide) _ _ _ rfl (HO.out.alloc _) ⟨b2, o2, none⟩ mx cap' ws rfl HWL.out HWC.out HWS.out.one (by unfold maxLen; omega) (by omega) HBX.out.size ?_))
        intro v' w1 hown' hgr _
        have hb1 : Below w.heap.size w w1 := HBX.out.grown hgr HBX.out.size (fun j hj => (HO.out.lt j hj).1)
        have HO1 := Lib.hid hown'; clear hown'
        have HB1 := Lib.hid hb1; clear hb1 hgr
        go_wp2
        go_roundw
        case rel =>
          refine ⟨k + 1, by omega, by go_num, Lib.hid ⟨vs ++ ws, ?_, ?_, HB1.out⟩⟩
          · rw [HTK.out, List.length_append, ← HN.out, ← HMX.out]
            exact HO1.out
          · rw [HTK.out, show h - 1 = h2 by have := HHE.out; omega]
            exact HWS.out.app (by have := HV.out; rw [show h - 1 = h2 by have := HHE.out; omega] at this; exact this)
        case measure => simp [intOf]; omega
    · obtain ⟨vs, ho, hv, hb⟩ := HR.out
      rw [show ts.take k = ts from by rw [List.take_of_length_le]; have := HM.out; omega] at ho hv
      have HE := Lib.hid (show LvlOwn w.heap.size w0 wr _ (kids ts) from ⟨_, _, hv, ho⟩)
      have HB := Lib.hid hb
      clear ho hv hb
      go_wp2
      go_ret
      exact ⟨_, rfl, HE.out, HB.out⟩

theorem argsOf_own (v : Value) (ts : List T) (w0 w : World) (hl : LvlAt w0 w v ts) (hb0 : Below w0.heap.size w0 w) (hk : (kids ts).length ≤ 1048576) (ht : ts.length ≤ 2097152) :
    Calls Try.prog 139 #[v] w (KidsOwn w0 ts w) := argsOf_ownK v ts w0 w hl hb0 (by omega) (by omega)
end Go.Proofs.Ytidbokheeieifaa
