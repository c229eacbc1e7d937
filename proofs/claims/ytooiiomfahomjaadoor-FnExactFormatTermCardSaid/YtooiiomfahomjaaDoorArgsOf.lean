/-
  impl.argsOf returns the row of all arguments of a row of terms, in memory of the call's own.
-/
import Derived.Test.YtooiiomfahomjaaDoorLevel
import Derived.Laws.OwnMore
import Derived.Deep.LoopGhost
namespace Go.Proofs.YtooiiomfahomjaaDoor
open Go.RowKit

theorem run_app_zero {P : Program} {w : World} (base : Nat) (t ty e : TypeId) (i : TypeInfo) (size : Nat) (ht : P.underlying t = some (.slice e)) (hi : P.info? e = some i)
    (v : Value) (n : Nat) (xs : List Value) (hown : w.ownsRow base e size v n xs) (ao : Option Addr) (c : Nat) :
    (Builtin.append_ #[t, t] ty #[v, .slice ao 0 c]).run P w = .ok v w := by
  rcases hown.2 with ⟨rfl, rfl⟩ | ⟨g, cap, cur, rfl, _, _, hnc, _⟩
  · cases ao <;> simp [Builtin.append_, run_underlying ht, sizeOf, typeInfo, hi, Builtin.lenOf, Builtin.firstCells, loadCells, loadCellsFrom]
  · cases ao <;> simp [Builtin.append_, run_underlying ht, sizeOf, typeInfo, hi, Builtin.lenOf, Builtin.firstCells, hnc, storeCells, loadCells, loadCellsFrom]

/-- append(own, none...) -/
theorem wpList_app_zero {P : Program} {w : World} {ops : Array Oper} {rest : List Oper} {o : Oper} {a : Act} {Q : Exit → Act → World → Prop} (hgd : o.guard = none) (s x : Operand) (t : TypeId)
    (ho : o.op = .call { callee := .builtin .append, args := #[s, x], argTypes := #[t, t] })
    (base : Nat) (e : TypeId) (i : TypeInfo) (size : Nat) (ht : P.underlying t = some (.slice e)) (hi : P.info? e = some i)
    (v : Value) (n : Nat) (xs : List Value) (hs : a.eval s = v) (hown : w.ownsRow base e size v n xs) (ao : Option Addr) (c : Nat) (hx : a.eval x = .slice ao 0 c)
    (h : wpList P ops Q rest (a.put o.dst v) w) : wpList P ops Q (o :: rest) a w := by
  refine wpList_plain hgd fun K hK => ?_
  have hrun := run_app_zero (P := P) (w := w) base t o.type e i size ht hi v n xs hown ao c
  unfold Oper.wp
  simp [execOp, ho, resolve, invoke, builtin, hs, hx, hrun, Result.andThen]
  exact hK _ _ h

theorem infoTermL : (Tryd.prog.info? 26).map (fun i => (i.zero, i.size, i.bytes)) = some (some (.agg #[.int .i64 0, .int .i64 0, .string ByteArray.empty, .slice none 0 0]), 4, 56) := by kernel_rfl

/-- A level of terms as a slice value. -/
def LevelAt (w : World) (v : Value) (ts : List T) : Prop := ∃ h, ArgsAt w 0 h v ts
theorem LevelAt.below {w w' : World} {v : Value} {ts : List T} (l : LevelAt w v ts) (hb : Below w.heap.size w w') : LevelAt w' v ts := by
  obtain ⟨h, ha⟩ := l
  exact ⟨h, ha.below hb⟩
theorem LevelAt.slice {w : World} {v : Value} {ts : List T} (l : LevelAt w v ts) : ∃ a cap, v = .slice a ts.length cap := by
  obtain ⟨h, ha⟩ := l
  exact ha.slice

def KidsEnd (ts : List T) (w : World) (e : Ending) (w' : World) : Prop :=
  ∃ u, e = .returned u ∧ LevelAt w' u (kids ts) ∧ Below w.heap.size w w'

/-- How far argsOf has come. -/
def KidsRel (h : Nat) (ts : List T) (k : Nat) (v : Value) (w wr : World) : Prop :=
  ∃ vs, wr.ownsRow w.heap.size 26 4 v (kids (ts.take k)).length vs ∧ RowV w (h - 1) (kids (ts.take k)) vs ∧ Below w.heap.size w wr

set_option maxRecDepth 100000 in
set_option maxHeartbeats 1600000 in
theorem argsOf_any (v : Value) (ts : List T) (w : World) (hl : LevelAt w v ts) (hk : (kids ts).length ≤ 1048576) (ht : ts.length ≤ 2097152) :
    Calls Tryd.prog 63 #[v] w (KidsEnd ts w) := by
  obtain ⟨h, ha⟩ := hl
  obtain ⟨a, cap, rfl⟩ := ha.slice
  obtain ⟨i0, hi, hz0, hz1, hz2⟩ := info_parts infoTermL
  have HI := Lib.hid hi; clear hi
  have HZ0 := Lib.hid hz0; clear hz0
  have HZ1 := Lib.hid hz1; clear hz1
  have HZ2 := Lib.hid hz2; clear hz2
  have HA := Lib.hid ha; clear ha
  have HK := Lib.hid hk; clear hk
  obtain ⟨m, hm⟩ : ∃ m, m = ts.length := ⟨_, rfl⟩
  rw [← hm] at HA ⊢ ht
  have HM := Lib.hid hm; clear hm
  go_enter Tryd.func63, Tryd.ntmps63
  go_wp2
  go_loopw [3, 8] (fun b i wr => ∃ k : Nat, k ≤ m ∧ i = .int .i64 k ∧ Hid (KidsRel (h - 1) ts k b w wr)) (fun _ i _ => m - (intOf i).toNat)
  case atStart => exact ⟨0, Nat.zero_le _, rfl, Lib.hid ⟨[], World.ownsRow_nil _ _ _ _, rfl, Below.refl _ _⟩⟩
  case round =>
    obtain ⟨k, hk, rfl, HR⟩ := hrel
    by_cases hlt : k < m
    · obtain ⟨t, ht⟩ : ∃ t, ts[k]? = some t := ⟨_, List.getElem?_eq_getElem (by have := HM.out; omega)⟩
      obtain ⟨h', b, o, kk, nn, s, xs, u', eh, rfl, rfl, hsz, c0, c1, c2, c3, har⟩ := HA.out.at ht
      obtain ⟨a', cap', rfl⟩ := har.slice
      obtain ⟨vs, ho, hv, hb⟩ := HR.out
      have d0 := cell_on hb c0
      have d1 := cell_on hb c1
      have d2 := cell_on hb c2
      have d3 := cell_on hb c3
      clear c0 c1 c2 c3
      have HTK : Hid (kids (ts.take (k + 1)) = kids (ts.take k) ++ xs) := Lib.hid (by rw [tk ts k _ ht, kids_snoc]; rfl)
      have hle := kids_take ts (k + 1)
      have hlx : (kids (ts.take k)).length + xs.length ≤ 1048576 := by
        rw [HTK.out, List.length_append] at hle
        have := HK.out; omega
      clear hle ht
      obtain ⟨n, hn⟩ : ∃ n, n = (kids (ts.take k)).length := ⟨_, rfl⟩
      rw [← hn] at ho hlx
      have HN := Lib.hid hn; clear hn
      have HO := Lib.hid ho; clear ho
      have HV := Lib.hid hv; clear hv
      have HB := Lib.hid hb; clear hb
      have HBX : Hid (Below w.heap.size w (wr.alloc (.cells #[.int .i64 kk, .int .i64 nn, .string s, .slice a' xs.length cap'] 26))) := Lib.hid (HB.out.alloc HB.out.size _)
      have HHA := Lib.hid har; clear har
      have HHE := Lib.hid eh; clear eh
      rcases HHA.out.cases with ⟨hnil, _⟩ | ⟨h2, b2, o2, cap2, e2, e3, hl3, _, hrow⟩
      · have hx0 : xs.length = 0 := by rw [hnil]; rfl
        rw [hx0] at d3 HBX
        go_wp2_with (first | (at_builtin; refine wpList_app_zero rfl (.tmp 12) (.tmp 14) 24 rfl w.heap.size 26 i0 4 Tryd.underlying24 HI.out _ _ _ rfl (HO.out.alloc _) _ _ rfl ?_))
        go_roundw
        case rel =>
          refine ⟨k + 1, by omega, by go_num, Lib.hid ⟨vs, ?_, ?_, HBX.out⟩⟩
          · rw [HTK.out, hnil, List.append_nil, ← HN.out]
            exact HO.out.alloc _
          · rw [HTK.out, hnil, List.append_nil]
            exact HV.out
        case measure => simp [intOf]; omega
      · obtain ⟨ws, hws, hwc⟩ := RowV.of_row hrow
        have hwl := hws.len
        cases e3
        have hwc' : ∀ (j : Nat) (u : Value), ws[j]? = some u → (wr.alloc (.cells #[.int .i64 kk, .int .i64 nn, .string s, .slice (some ⟨b2, o2, none⟩) xs.length cap'] 26)).cell? (Addr.add ⟨b2, o2, none⟩ j) = some u := fun j u hj => cell_on HBX.out (hwc j u hj)
        have HWC := Lib.hid hwc'; clear hwc' hwc
        have HWL := Lib.hid hwl; clear hwl
        have HWS := Lib.hid hws; clear hws
        clear hrow
        obtain ⟨mx, hmx⟩ : ∃ mx, mx = xs.length := ⟨_, rfl⟩
        rw [← hmx] at hlx d3 HBX HWC HWL
        have HMX := Lib.hid hmx; clear hmx
        go_wp2_with (first | (at_builtin; refine wpList_append_own _ rfl (.tmp 12) (.tmp 14) 24 rfl w.heap.size 26 i0 (.agg #[.int .i64 0, .int .i64 0, .string ByteArray.empty, .slice none 0 0]) 4 56 Tryd.underlying24 HI.out HZ0.out HZ1.out HZ2.out rfl (by decide) _ _ _ rfl (HO.out.alloc _) ⟨b2, o2, none⟩ mx cap' ws rfl HWL.out HWC.out HWS.out.one (by unfold maxLen; omega) (by omega) HBX.out.size ?_))
        intro v' w1 hown' hgr _
        have hb1 : Below w.heap.size w w1 := HBX.out.grown hgr HBX.out.size (fun j hj => (HO.out.lt j hj).1)
        have HO1 := Lib.hid hown'; clear hown'
        have HB1 := Lib.hid hb1; clear hb1 hgr
        go_wp2
        go_roundw
        case rel =>
          refine ⟨k + 1, by omega, by go_num, Lib.hid ⟨vs ++ ws, ?_, ?_, HB1.out⟩⟩
          · rw [HTK.out, List.length_append, ← HN.out, ← HMX.out]
            exact HO1.out
          · rw [HTK.out, show h - 1 - 1 = h2 by have := HHE.out; omega]
            exact HWS.out.app (by have := HV.out; rw [show h - 1 - 1 = h2 by have := HHE.out; omega] at this; exact this)
        case measure => simp [intOf]; omega
    · obtain ⟨vs, ho, hv, hb⟩ := HR.out
      rw [show ts.take k = ts from by rw [List.take_of_length_le]; have := HM.out; omega] at ho hv
      have HE := Lib.hid (show LevelAt wr _ (kids ts) from ⟨_, (hv.below hb).args ho rfl (by have := HK.out; unfold maxLen; omega)⟩)
      have HB := Lib.hid hb
      clear ho hv hb
      go_wp2
      go_ret
      exact ⟨_, rfl, HE.out, HB.out⟩

end Go.Proofs.YtooiiomfahomjaaDoor
