/-
  impl.headSort at an application.
-/
import Derived.Test.YtidbokheeieifaaQ6
import Derived.Test.YtidbokheeieifaaQ7
import Derived.Deep.RegionHeld3
import Derived.Deep.DeepCutAuto
namespace Go.Proofs.Ytidbokheeieifaa
open Go.RowKit

theorem mBu' (f : Nat) (a b c : Value) (W : World) : (method (f + 1) 228 (.agg #[a, b, c]) "loop.example/g00517/impl.resultOf").run Try.prog W = .ok (209, .agg #[a, b, c]) W := by kernel_rfl
theorem mDe' (f : Nat) (a b c d : Value) (W : World) : (method (f + 1) 230 (.agg #[a, b, c, d]) "loop.example/g00517/impl.resultOf").run Try.prog W = .ok (209, .agg #[a, b, c]) W := by kernel_rfl
theorem mMi' (f : Nat) (a b c : Value) (W : World) : (method (f + 1) 213 (.agg #[a, b, c]) "loop.example/g00517/impl.resultOf").run Try.prog W = .ok (209, .agg #[a, b, c]) W := by kernel_rfl

/-- The sort that an operator gives with so many arguments. -/
def headD (ds : List OpD) (s : ByteArray) (m : Nat) : ByteArray :=
  match findD ds s with
  | some d => if m = d.args.length then d.res else zE
  | none => zE

set_option maxRecDepth 100000 in
set_option maxHeartbeats 1600000 in
theorem head2_any (x : Value) (ps : List ByteArray) (ds : List OpD) (n : Int) (s : ByteArray) (a : Option Addr) (m cap : Nat) (mv : Value) (w : World) (hn : ds.length ≤ 1048576) (ha : ∀ d ∈ ds, d.args.length ≤ 1048576) (hv : SigAt w x ps ds) :
    Calls Try.prog 120 #[x, tv 2 n s (.slice a m cap), mv] w (TextB (headD ds s m) w) := by
  have HV := Lib.hid hv
  obtain ⟨sa, sb, rfl, hs, ht⟩ := hv
  obtain ⟨sa, sc, rfl⟩ := hs.slice
  obtain ⟨ta, tc, rfl⟩ := ht.slice
  clear hs ht
  have HA := Lib.hid (And.intro hn ha); clear hn ha
  have hq := asOO
  have hq2 := asOV
  have hq3 := asOW
  obtain ⟨pl, hpl⟩ : ∃ z, z = ps.length := ⟨_, rfl⟩
  obtain ⟨dl, hdl⟩ : ∃ z, z = ds.length := ⟨_, rfl⟩
  rw [← hpl, ← hdl] at HV ⊢
  clear hpl hdl
  go_enter Try.func120, Try.ntmps120
  go_wp2_with (go_at_call 140; refine (form2_any _ _ _ _).mono ?_; rintro e w1 ⟨rfl, rfl⟩)
  obtain ⟨F, hF⟩ : ∃ F, F = (boxed ((w.alloc (.cells #[.slice sa pl sc, .slice ta dl tc] 49)).alloc (.cells #[.int .i64 2, .int .i64 n, .string s, .slice a m cap] 26)) 2 n s (.slice a m cap)).alloc (.cells #[.string s] 204) := ⟨_, rfl⟩
  have hbF : Below w.heap.size w F := by rw [hF]; exact ((((Below.refl _ _).alloc (Nat.le_refl _) _).alloc (by simp) _).alloc (by simp; omega) _).alloc (by simp; omega) _
  have HS : Hid (∀ w', Below F.heap.size F w' → ((w'.cell? ⟨w.heap.size, 0, none⟩ = some (.slice sa pl sc) ∧ w'.cell? ⟨w.heap.size, 1, none⟩ = some (.slice ta dl tc)) ∧ w'.cell? ⟨w.heap.size + 1, 3, none⟩ = some (.slice a m cap) ∧ w'.cell? ⟨w.heap.size + 1 + 1 + 1, 0, none⟩ = some (.string s)) ∧ Below F.heap.size F w') := Lib.hid (fun w' hb => by
    have z : F.heap.size = w.heap.size + 1 + 1 + 1 + 1 := by rw [hF]; simp
    have r0 : F.heap[w.heap.size]? = some (.cells #[.slice sa pl sc, .slice ta dl tc] 49 (0, 0)) := by
      rw [hF, Below.heap_alloc _ _ _ (by simp; omega), Below.heap_alloc _ _ _ (by simp; omega), Below.heap_alloc _ _ _ (by simp)]; exact heap_new w _ rfl
    have r1 : F.heap[w.heap.size + 1]? = some (.cells #[.int .i64 2, .int .i64 n, .string s, .slice a m cap] 26 (0, 0)) := by
      rw [hF, Below.heap_alloc _ _ _ (by simp), Below.heap_alloc _ _ _ (by simp)]; exact heap_new _ _ (by simp)
    have r3 : F.heap[w.heap.size + 1 + 1 + 1]? = some (.cells #[.string s] 204 (0, 0)) := by
      rw [hF]; exact heap_new _ _ (by simp)
    have q0 := (hb.block _ (by omega)).trans r0
    have q1 := (hb.block _ (by omega)).trans r1
    have q3 := (hb.block _ (by omega)).trans r3
    exact ⟨⟨⟨by rw [cell_of_row _ _ 0 _ _ _ q0]; rfl, by rw [cell_of_row _ _ 1 _ _ _ q0]; rfl⟩, by rw [cell_of_row _ _ 3 _ _ _ q1]; rfl, by rw [cell_of_row _ _ 0 _ _ _ q3]; rfl⟩, hb⟩)
  have HOP : Hid (∀ w', Below F.heap.size F w' → Calls Try.prog 146 #[sv (.slice sa pl sc) (.slice ta dl tc), .string s] w' (OperE (findD ds s) s w')) := Lib.hid (fun w' hb => by
    obtain ⟨a', b', e, h1, h2⟩ := HV.out
    have hbw : Below w.heap.size w w' := hbF.trans (hb.mono hbF.size)
    exact oper_any _ s ps ds w' HA.out.1 HA.out.2 ⟨a', b', e, h1.below hbw, h2.below hbw⟩)
  have HBF := Lib.hid hbF; clear hbF
  rw [← hF]
  clear hF
  obtain ⟨⟨⟨c0, c1⟩, c3, c5⟩, _⟩ := HS.out F (Below.refl _ _)
  have hm1 := mBu'
  have hm2 := mDe'
  have hm3 := mMi'
  -- the region
  have hSD := HS.out F.drew ((Below.refl _ F).drew)
  refine wp_region_held_drew (S := fun w' => ((w'.cell? ⟨w.heap.size, 0, none⟩ = some (.slice sa pl sc) ∧ w'.cell? ⟨w.heap.size, 1, none⟩ = some (.slice ta dl tc)) ∧ w'.cell? ⟨w.heap.size + 1, 3, none⟩ = some (.slice a m cap) ∧ w'.cell? ⟨w.heap.size + 1 + 1 + 1, 0, none⟩ = some (.string s)) ∧ Below F.heap.size F w') (by kernel_rfl) hSD (fun hHeld => ?_)
  refine wpAnyH_take (i := 0) (oi := { dst := some 25, op := Op.load 49 (Operand.tmp 3), type := 49, pos := "l06_signature.go:187", after := #[], guard := none }) (v := ?va0) rfl (by kernel_rfl) (by kernel_rfl) (by kernel_rfl) (fun _ _ _ h => h) (Or.inl ⟨by rfl, ?ya0⟩) hHeld ?ra0
  case ya0 => (intro w hSw; (try dsimp only at hSw); go_simp; try with_reducible rfl)
  (try simp only [Act.put, List.setIfInBounds_toArray, List.set_cons_zero, List.set_cons_succ])
  refine wpAnyH_take (i := 1) (oi := { dst := some 26, op := Op.fieldAddr 204 (Operand.tmp 9) 0, type := 0, pos := "l06_signature.go:187", after := #[], guard := none }) (v := ?va1) rfl (by kernel_rfl) (by kernel_rfl) (by kernel_rfl) (fun _ _ _ h => h) (Or.inl ⟨by rfl, ?ya1⟩) hHeld ?ra1
  case ya1 => (intro w hSw; (try dsimp only at hSw); go_simp; try with_reducible rfl)
  (try simp only [Act.put, List.setIfInBounds_toArray, List.set_cons_zero, List.set_cons_succ])
  refine wpAnyH_take (i := 2) (oi := { dst := some 27, op := Op.load 9 (Operand.tmp 26), type := 9, pos := "l06_signature.go:187", after := #[{ on := 1, ground := Ground.data }], guard := none }) (v := ?va2) rfl (by kernel_rfl) (by kernel_rfl) (by kernel_rfl) (fun _ _ _ h => h) (Or.inl ⟨by rfl, ?ya2⟩) hHeld ?ra2
  case ya2 => (intro w hSw; (try dsimp only at hSw); go_simp; try with_reducible rfl)
  (try simp only [Act.put, List.setIfInBounds_toArray, List.set_cons_zero, List.set_cons_succ])
  refine wpAnyH_take (i := 4) (oi := { dst := some 29, op := Op.fieldAddr 26 (Operand.tmp 4) 3, type := 0, pos := "l06_signature.go:187", after := #[], guard := none }) (v := ?va4) rfl (by kernel_rfl) (by kernel_rfl) (by kernel_rfl) (fun _ _ _ h => h) (Or.inl ⟨by rfl, ?ya4⟩) hHeld ?ra4
  case ya4 => (intro w hSw; (try dsimp only at hSw); go_simp; try with_reducible rfl)
  (try simp only [Act.put, List.setIfInBounds_toArray, List.set_cons_zero, List.set_cons_succ])
  refine wpAnyH_take (i := 5) (oi := { dst := some 30, op := Op.load 24 (Operand.tmp 29), type := 24, pos := "l06_signature.go:187", after := #[{ on := 4, ground := Ground.data }], guard := none }) (v := ?va5) rfl (by kernel_rfl) (by kernel_rfl) (by kernel_rfl) (fun _ _ _ h => h) (Or.inl ⟨by rfl, ?ya5⟩) hHeld ?ra5
  case ya5 => (intro w hSw; (try dsimp only at hSw); go_simp; try with_reducible rfl)
  (try simp only [Act.put, List.setIfInBounds_toArray, List.set_cons_zero, List.set_cons_succ])
  refine wpAnyH_take (i := 6) (oi := { dst := some 31, op := Op.call { callee := Callee.builtin Builtin.len, args := #[Operand.tmp 30], argTypes := #[24] }, type := 3, pos := "l06_signature.go:187", after := #[{ on := 5, ground := Ground.data }], guard := none }) (v := ?va6) rfl (by kernel_rfl) (by kernel_rfl) (by kernel_rfl) (fun _ _ _ h => h) (Or.inl ⟨by rfl, ?ya6⟩) hHeld ?ra6
  case ya6 => (intro w hSw; (try dsimp only at hSw); go_simp; try with_reducible rfl)
  (try simp only [Act.put, List.setIfInBounds_toArray, List.set_cons_zero, List.set_cons_succ])
  refine wpAnyH_ready (rs := [3]) (by kernel_rfl) (by simp) ?_
  refine AllReadyH.cons (o := { dst := some 28, op := Op.call { callee := Callee.value (Operand.func 146), args := #[Operand.tmp 25, Operand.tmp 27], argTypes := #[49, 9] }, type := 208, pos := "l06_signature.go:187", after := #[{ on := 0, ground := Ground.data }, { on := 2, ground := Ground.data }], guard := none }) rfl (fun K hK => ?_) AllReadyH.nil
  (go_simp; refine (HOP.out _ (by (repeat' (first | assumption | exact Below.refl _ _ | refine Below.drew ?_ | refine bel_two ?_ (by assumption))))).mono ?_; rintro e w7 ⟨v7, rfl, hop, hb7⟩; go_wp2_with fail; refine hK.out _ _ (HS.out w7 (by (repeat' (first | assumption | exact Below.refl _ _ | refine Below.drew ?_ | refine bel_two ?_ (by assumption))))) (fun hHeld => ?_))
  clear hK K
  (try simp only [Act.put, List.setIfInBounds_toArray, List.set_cons_zero, List.set_cons_succ])
  rcases hop with ⟨hb, ho, rfl⟩ | ⟨d, da, dn, dc, ho, hdn, hdl, rfl, _⟩ | ⟨ho, rfl⟩
  · have HE : Hid (resT 2 kWord (m : Int) = headD ds s m) := Lib.hid (by unfold headD resT; rw [ho]; show _ = if m = 2 then _ else _; by_cases e : m = 2 <;> simp [e]; omega)
    refine wpAnyH_ready (rs := [7]) (by kernel_rfl) (by simp) ?_
    refine AllReadyH.cons (o := { dst := some 32, op := Op.call { callee := Callee.invoke (Operand.tmp 28) "loop.example/g00517/impl.resultOf", args := #[Operand.tmp 31], argTypes := #[3] }, type := 9, pos := "l06_signature.go:187", after := #[{ on := 3, ground := Ground.data }, { on := 6, ground := Ground.data }, { on := 3, ground := Ground.chain }], guard := none }) rfl (fun K hK => ?_) AllReadyH.nil
    go_simp
    refine (res_any _ _ _ _ _).mono ?_
    rintro e w8 ⟨rfl, hb8⟩
    rw [HE.out]
    have HB8 : Hid (Below F.heap.size F w8) := Lib.hid (bel_two (bel_two ((Below.refl _ F).drew) hb7) hb8)
    go_wp2_with fail
    refine hK.out _ _ (HS.out w8 HB8.out) (fun hHeld => ?_)
    clear hK K
    (try simp only [Act.put, List.setIfInBounds_toArray, List.set_cons_zero, List.set_cons_succ])
    refine wpAnyH_take (i := 8) (oi := { dst := some 6, op := Op.assign (Operand.tmp 32), type := 9, pos := "l06_signature.go:187", after := #[{ on := 7, ground := Ground.data }, { on := 7, ground := Ground.chain }, { on := 0, ground := Ground.phase }, { on := 1, ground := Ground.phase }, { on := 2, ground := Ground.phase }, { on := 3, ground := Ground.phase }, { on := 4, ground := Ground.phase }, { on := 5, ground := Ground.phase }, { on := 6, ground := Ground.phase }, { on := 7, ground := Ground.phase }], guard := none }) (v := ?vb8) rfl (by kernel_rfl) (by kernel_rfl) (by kernel_rfl) (fun _ _ _ h => h) (Or.inl ⟨by rfl, ?yb8⟩) hHeld ?rb8
    case yb8 => (intro w hSw; (try dsimp only at hSw); go_simp; try with_reducible rfl)
    (try simp only [Act.put, List.setIfInBounds_toArray, List.set_cons_zero, List.set_cons_succ])
    refine wpAnyH_done (by kernel_rfl) ?_ _
    go_wp2
    go_ret
    exact ⟨rfl, bel_two HBF.out HB8.out⟩
  · have HE : Hid (resT (d.args.length : Int) d.res (m : Int) = headD ds s m) := Lib.hid (by unfold headD resT; rw [ho]; show _ = if m = d.args.length then _ else _; by_cases e : m = d.args.length <;> simp [e]; omega)
    refine wpAnyH_ready (rs := [7]) (by kernel_rfl) (by simp) ?_
    refine AllReadyH.cons (o := { dst := some 32, op := Op.call { callee := Callee.invoke (Operand.tmp 28) "loop.example/g00517/impl.resultOf", args := #[Operand.tmp 31], argTypes := #[3] }, type := 9, pos := "l06_signature.go:187", after := #[{ on := 3, ground := Ground.data }, { on := 6, ground := Ground.data }, { on := 3, ground := Ground.chain }], guard := none }) rfl (fun K hK => ?_) AllReadyH.nil
    go_simp
    refine (res_any _ _ _ _ _).mono ?_
    rintro e w8 ⟨rfl, hb8⟩
    rw [HE.out]
    have HB8 : Hid (Below F.heap.size F w8) := Lib.hid (bel_two (bel_two ((Below.refl _ F).drew) hb7) hb8)
    go_wp2_with fail
    refine hK.out _ _ (HS.out w8 HB8.out) (fun hHeld => ?_)
    clear hK K
    (try simp only [Act.put, List.setIfInBounds_toArray, List.set_cons_zero, List.set_cons_succ])
    refine wpAnyH_take (i := 8) (oi := { dst := some 6, op := Op.assign (Operand.tmp 32), type := 9, pos := "l06_signature.go:187", after := #[{ on := 7, ground := Ground.data }, { on := 7, ground := Ground.chain }, { on := 0, ground := Ground.phase }, { on := 1, ground := Ground.phase }, { on := 2, ground := Ground.phase }, { on := 3, ground := Ground.phase }, { on := 4, ground := Ground.phase }, { on := 5, ground := Ground.phase }, { on := 6, ground := Ground.phase }, { on := 7, ground := Ground.phase }], guard := none }) (v := ?vc8) rfl (by kernel_rfl) (by kernel_rfl) (by kernel_rfl) (fun _ _ _ h => h) (Or.inl ⟨by rfl, ?yc8⟩) hHeld ?rc8
    case yc8 => (intro w hSw; (try dsimp only at hSw); go_simp; try with_reducible rfl)
    (try simp only [Act.put, List.setIfInBounds_toArray, List.set_cons_zero, List.set_cons_succ])
    refine wpAnyH_done (by kernel_rfl) ?_ _
    go_wp2
    go_ret
    exact ⟨rfl, bel_two HBF.out HB8.out⟩
  · have HE : Hid (resT 0 ⟨#[]⟩ (m : Int) = headD ds s m) := Lib.hid (by unfold headD resT; rw [ho]; simp)
    refine wpAnyH_ready (rs := [7]) (by kernel_rfl) (by simp) ?_
    refine AllReadyH.cons (o := { dst := some 32, op := Op.call { callee := Callee.invoke (Operand.tmp 28) "loop.example/g00517/impl.resultOf", args := #[Operand.tmp 31], argTypes := #[3] }, type := 9, pos := "l06_signature.go:187", after := #[{ on := 3, ground := Ground.data }, { on := 6, ground := Ground.data }, { on := 3, ground := Ground.chain }], guard := none }) rfl (fun K hK => ?_) AllReadyH.nil
    go_simp
    refine (res_any _ _ _ _ _).mono ?_
    rintro e w8 ⟨rfl, hb8⟩
    rw [HE.out]
    have HB8 : Hid (Below F.heap.size F w8) := Lib.hid (bel_two (bel_two ((Below.refl _ F).drew) hb7) hb8)
    go_wp2_with fail
    refine hK.out _ _ (HS.out w8 HB8.out) (fun hHeld => ?_)
    clear hK K
    (try simp only [Act.put, List.setIfInBounds_toArray, List.set_cons_zero, List.set_cons_succ])
    refine wpAnyH_take (i := 8) (oi := { dst := some 6, op := Op.assign (Operand.tmp 32), type := 9, pos := "l06_signature.go:187", after := #[{ on := 7, ground := Ground.data }, { on := 7, ground := Ground.chain }, { on := 0, ground := Ground.phase }, { on := 1, ground := Ground.phase }, { on := 2, ground := Ground.phase }, { on := 3, ground := Ground.phase }, { on := 4, ground := Ground.phase }, { on := 5, ground := Ground.phase }, { on := 6, ground := Ground.phase }, { on := 7, ground := Ground.phase }], guard := none }) (v := ?vd8) rfl (by kernel_rfl) (by kernel_rfl) (by kernel_rfl) (fun _ _ _ h => h) (Or.inl ⟨by rfl, ?yd8⟩) hHeld ?rd8
    case yd8 => (intro w hSw; (try dsimp only at hSw); go_simp; try with_reducible rfl)
    (try simp only [Act.put, List.setIfInBounds_toArray, List.set_cons_zero, List.set_cons_succ])
    refine wpAnyH_done (by kernel_rfl) ?_ _
    go_wp2
    go_ret
    exact ⟨rfl, bel_two HBF.out HB8.out⟩
end Go.Proofs.Ytidbokheeieifaa
