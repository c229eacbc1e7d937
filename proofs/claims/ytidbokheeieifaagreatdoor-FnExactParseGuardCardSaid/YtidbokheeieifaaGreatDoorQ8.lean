/-
  Levels of terms: impl.argsOf returns the row of all arguments of a row of terms, in memory of the call's own.
  impl.argsOf returns the row of all arguments of a row of terms, in memory of the call's own.
  The first level of a walk level by level. No walk.
  impl.IsValidTerm, level by level, tells whether a term is valid.
-/
import Derived.Test.YtidbokheeieifaaGreatDoorQ5
import Derived.Test.YtidbokheeieifaaGreatDoorQ7
import Derived.OwnWalk
import Derived.Laws.AppendOwn
import Derived.Laws.OwnMore
import Derived.Deep.LoopGhost
namespace Go.Proofs.YtidbokheeieifaaGreatDoor
open Go.RowKit

/-- A term's arguments. -/
def kT : T → List T
  | .node _ _ _ xs => xs
/-- The level below a level. -/
def kids (ts : List T) : List T := ts.flatMap kT

theorem kids_snoc (l : List T) (t : T) : kids (l ++ [t]) = kids l ++ kT t := by simp [kids]
theorem kids_nil : kids [] = [] := rfl
theorem cS_cons (t : T) (l : List T) : cS (t :: l) = cT t + cS l := by simp [cS]
theorem cS_app (l m : List T) : cS (l ++ m) = cS l + cS m := by simp [cS]
theorem cT_kT (t : T) : cT t = 1 + cS (kT t) := by
  obtain ⟨k, n, s, xs⟩ := t
  exact cT_node k n s xs
theorem cS_kids (ts : List T) : cS ts = ts.length + cS (kids ts) := by
  induction ts with
  | nil => simp [cS, kids]
  | cons t l ih =>
    have e : kids (t :: l) = kT t ++ kids l := by simp [kids]
    rw [e, cS_cons, cS_app, cT_kT, ih, List.length_cons]; omega
theorem len_le_cS (ts : List T) : ts.length ≤ cS ts := by rw [cS_kids ts]; omega
theorem kids_take (ts : List T) (k : Nat) : (kids (ts.take k)).length ≤ (kids ts).length := by
  have h : kids ts = kids (ts.take k) ++ kids (ts.drop k) := by
    unfold kids
    rw [← List.flatMap_append, List.take_append_drop]
  rw [h, List.length_append]; omega
theorem dS_cons (t : T) (l : List T) : dS (t :: l) = max (dT t) (dS l) := by
  unfold dS
  rw [List.map_cons, List.foldl_cons]
  generalize l.map dT = m
  have : ∀ (m : List Nat) (a b : Nat), m.foldl max (max a b) = max b (m.foldl max a) := by
    intro m
    induction m with
    | nil => intro a b; simp [Nat.max_comm]
    | cons x m ih => intro a b; rw [List.foldl_cons, List.foldl_cons, ← ih, Nat.max_assoc, Nat.max_comm b x, Nat.max_assoc]
  exact this m 0 (dT t)
theorem dS_nil : dS [] = 0 := rfl
theorem dT_kT (t : T) : dT t = dS (kT t) + 1 := by
  obtain ⟨k, n, s, xs⟩ := t
  rw [dT]; rfl
theorem dS_app (l m : List T) : dS (l ++ m) = max (dS l) (dS m) := by
  induction l with
  | nil => simp [dS_nil]
  | cons t l ih => rw [List.cons_append, dS_cons, dS_cons, ih, Nat.max_assoc]
theorem dS_kids (ts : List T) : ts ≠ [] → dS ts = 1 + dS (kids ts) := by
  induction ts with
  | nil => simp
  | cons t l ih =>
    intro _
    have e : kids (t :: l) = kT t ++ kids l := by simp [kids]
    rw [e, dS_cons, dS_app, dT_kT]
    cases l with
    | nil => simp [kids, dS_nil]; omega
    | cons t' l' => rw [ih (by simp)]; omega

/-- The cells of a row of terms. -/
def RowV (w : World) (h : Nat) : List T → List Value → Prop
  | [], vs => vs = []
  | .node k n s xs :: ts, vs => ∃ a m cap rest, vs = .int .i64 k :: .int .i64 n :: .string s :: .slice a m cap :: rest ∧ s.size ≤ maxLen ∧ ArgsAt w 0 h (.slice a m cap) xs ∧ RowV w h ts rest

theorem RowV.keep {w w' : World} {h : Nat} (hk : ∀ (ad : Addr) v, w.cell? ad = some v → w'.cell? ad = some v) : ∀ {ts : List T} {vs : List Value}, RowV w h ts vs → RowV w' h ts vs
  | [], _, e => e
  | .node _ _ _ _ :: _, _, ⟨a, m, cap, rest, e, hs, ha, hr⟩ => ⟨a, m, cap, rest, e, hs, ha.keep (fun ad v _ hv => hk ad v hv), hr.keep hk⟩
theorem RowV.below {w w' : World} {h : Nat} {ts : List T} {vs : List Value} (r : RowV w h ts vs) (hb : Below w.heap.size w w') : RowV w' h ts vs :=
  r.keep fun _ _ hv => cell_on hb hv
theorem RowV.app {w : World} {h : Nat} {us : List T} {ws : List Value} (q : RowV w h us ws) : ∀ {ts : List T} {vs : List Value}, RowV w h ts vs → RowV w h (ts ++ us) (vs ++ ws)
  | [], _, e => by cases e; exact q
  | .node _ _ _ _ :: _, _, ⟨a, m, cap, rest, e, hs, ha, hr⟩ => ⟨a, m, cap, rest ++ ws, by rw [e]; rfl, hs, ha, q.app hr⟩
theorem RowV.len {w : World} {h : Nat} : ∀ {ts : List T} {vs : List Value}, RowV w h ts vs → vs.length = ts.length * 4
  | [], _, e => by cases e; rfl
  | .node _ _ _ _ :: _, _, ⟨a, m, cap, rest, e, _, _, hr⟩ => by rw [e]; simp [hr.len]; omega
theorem RowV.one {w : World} {h : Nat} : ∀ {ts : List T} {vs : List Value}, RowV w h ts vs → ∀ u ∈ vs, u.oneCell' = true
  | [], _, e => by cases e; simp
  | .node _ _ _ _ :: _, _, ⟨a, m, cap, rest, e, _, _, hr⟩ => by
    intro u hu
    rw [e] at hu
    simp only [List.mem_cons] at hu
    rcases hu with rfl | rfl | rfl | rfl | hu
    · rfl
    · rfl
    · rfl
    · rfl
    · exact hr.one u hu
theorem RowV.at {w : World} {h : Nat} : ∀ {ts : List T} {vs : List Value}, RowV w h ts vs → ∀ (i : Nat) (k n : Int) (s : ByteArray) (xs : List T), ts[i]? = some (T.node k n s xs) →
    s.size ≤ maxLen ∧ ∃ a m cap, vs[i * 4]? = some (.int .i64 k) ∧ vs[i * 4 + 1]? = some (.int .i64 n) ∧ vs[i * 4 + 2]? = some (.string s) ∧ vs[i * 4 + 3]? = some (.slice a m cap) ∧ ArgsAt w 0 h (.slice a m cap) xs
  | [], _, _ => by simp
  | .node _ _ _ _ :: _, _, ⟨a, m, cap, rest, e, hs, ha, hr⟩ => by
    intro i k n s xs hi
    cases i with
    | zero =>
      simp at hi
      obtain ⟨rfl, rfl, rfl, rfl⟩ := hi
      subst e
      exact ⟨hs, a, m, cap, rfl, rfl, rfl, rfl, ha⟩
    | succ i =>
      simp at hi
      obtain ⟨hs', a', m', cap', x0, x1, x2, x3, ha'⟩ := hr.at i k n s xs hi
      subst e
      refine ⟨hs', a', m', cap', ?_, ?_, ?_, ?_, ha'⟩
      · rw [show (i + 1) * 4 = i * 4 + 4 by omega]; simpa using x0
      · rw [show (i + 1) * 4 + 1 = i * 4 + 1 + 4 by omega]; simpa using x1
      · rw [show (i + 1) * 4 + 2 = i * 4 + 2 + 4 by omega]; simpa using x2
      · rw [show (i + 1) * 4 + 3 = i * 4 + 3 + 4 by omega]; simpa using x3
theorem RowV.of_row {w : World} {lo h b : Nat} : ∀ {ts : List T} {o : Nat}, RowAt w lo h b o ts → ∃ vs, RowV w h ts vs ∧ ∀ (j : Nat) (u : Value), vs[j]? = some u → w.cell? (Addr.add ⟨b, o, none⟩ j) = some u
  | [], _, _ => ⟨[], rfl, by simp⟩
  | .node k n s xs :: ts, o, hc => by
    obtain ⟨hs, u', c0, c1, c2, c3, hr⟩ := hc 0 k n s xs rfl
    obtain ⟨a, cap, rfl⟩ := hr.slice
    have hc' : RowAt w lo h b (o + 4) ts := fun i k n s xs hi => by
      have := hc (i + 1) k n s xs (by simpa using hi)
      rw [show o + (i + 1) * 4 = o + 4 + i * 4 by omega] at this
      exact this
    obtain ⟨vs, hv, hx⟩ := RowV.of_row hc'
    refine ⟨_, ⟨a, _, cap, vs, rfl, hs, hr.low (Nat.zero_le _), hv⟩, fun j u hj => ?_⟩
    simp only [Nat.zero_mul, Nat.add_zero] at c0 c1 c2 c3
    match j, hj with
    | 0, hj => simp at hj; subst hj; simpa [Addr.add] using c0
    | 1, hj => simp at hj; subst hj; simpa [Addr.add] using c1
    | 2, hj => simp at hj; subst hj; simpa [Addr.add] using c2
    | 3, hj => simp at hj; subst hj; simpa [Addr.add] using c3
    | j + 4, hj =>
      simp at hj
      have := hx j u hj
      rw [show Addr.add ⟨b, o, none⟩ (j + 4) = Addr.add ⟨b, o + 4, none⟩ j from ?_]
      · exact this
      · unfold Addr.add
        by_cases hj0 : j = 0
        · subst hj0; simp
        · simp [hj0]; omega

/-- A row of the call's own as the arguments of a term. -/
theorem RowV.args {w : World} {B h n : Nat} {v : Value} {ts : List T} {vs : List Value} (r : RowV w h ts vs) (ho : w.ownsRow B 26 4 v n vs) (hn : n = ts.length) (hl : n ≤ maxLen) : ArgsAt w 0 (h + 1) v ts := by
  rcases ho.2 with hnil | ⟨g, cap, cur, rfl, hg, rest⟩
  · obtain ⟨rfl, h0⟩ := hnil
    have : ts = [] := List.eq_nil_of_length_eq_zero (by omega)
    subst this
    exact ArgsAt.nil _ _ _ _ _
  · subst hn
    refine ⟨_, cap, rfl, hl, Or.inr ⟨g, 0, rfl, Nat.zero_le _, fun i k n s xs hi => ?_⟩⟩
    obtain ⟨hs, a, m, c, x0, x1, x2, x3, ha⟩ := r.at i k n s xs hi
    have hli : i < ts.length := (List.getElem?_eq_some_iff.1 hi).1
    refine ⟨hs, _, ?_, ?_, ?_, ?_, ha⟩
    · rw [Nat.zero_add, ho.cellAt (i * 4) (by omega), x0]
    · rw [Nat.zero_add, ho.cellAt (i * 4 + 1) (by omega), x1]
    · rw [Nat.zero_add, ho.cellAt (i * 4 + 2) (by omega), x2]
    · rw [Nat.zero_add, ho.cellAt (i * 4 + 3) (by omega), x3]
end Go.Proofs.YtidbokheeieifaaGreatDoor
namespace Go.Proofs.YtidbokheeieifaaGreatDoor
open Go.RowKit

theorem run_app_zero {P : Program} {w : World} (base : Nat) (t ty e : TypeId) (i : TypeInfo) (size : Nat) (ht : P.underlying t = some (.slice e)) (hi : P.info? e = some i)
    (v : Value) (n : Nat) (xs : List Value) (hown : w.ownsRow base e size v n xs) (ao : Option Addr) (c : Nat) :
    (Builtin.append_ #[t, t] ty #[v, .slice ao 0 c]).run P w = .ok v w := by
  rcases hown.2 with ⟨rfl, rfl⟩ | ⟨g, cap, cur, rfl, _, _, hnc, _⟩
  · cases ao <;> simp [Builtin.append_, run_underlying ht, sizeOf, typeInfo, hi, Builtin.lenOf, Builtin.firstCells, loadCells, loadCellsFrom]
  · cases ao <;> simp [Builtin.append_, run_underlying ht, sizeOf, typeInfo, hi, Builtin.lenOf, Builtin.firstCells, hnc, storeCells, loadCells, loadCellsFrom]

/-- append(own, none...) -/
theorem wpList_app_zero {P : Program} {w : World} {ops : Array Oper} {rest : List Oper} {o : Oper} {a : Act} {Q : Exit → Act → World → Prop} (hgd : o.guard = none) (s x : Operand) (t : TypeId)
    (ho : o.op = .call { callee := .builtin .append, args := #[s, x], argTypes := #[t, t] })
    (base : Nat) (e : TypeId) (i : TypeInfo) (size : Nat) (ht : P.underlying t = some (.slice e)) (hi : P.info? e = some i)
    (v : Value) (n : Nat) (xs : List Value) (hs : a.eval s = v) (hown : w.ownsRow base e size v n xs) (ao : Option Addr) (c : Nat) (hx : a.eval x = .slice ao 0 c)
    (h : wpList P ops Q rest (a.put o.dst v) w) : wpList P ops Q (o :: rest) a w := by
  refine wpList_plain hgd fun K hK => ?_
  have hrun := run_app_zero (P := P) (w := w) base t o.type e i size ht hi v n xs hown ao c
  unfold Oper.wp
  simp [execOp, ho, resolve, invoke, builtin, hs, hx, hrun, Result.andThen]
  exact hK _ _ h

theorem infoTermL : (Tryz.prog.info? 26).map (fun i => (i.zero, i.size, i.bytes)) = some (some (.agg #[.int .i64 0, .int .i64 0, .string ByteArray.empty, .slice none 0 0]), 4, 56) := by kernel_rfl

/-- A level of terms as a slice value. -/
def LevelAt (w : World) (v : Value) (ts : List T) : Prop := ∃ h, ArgsAt w 0 h v ts
theorem LevelAt.below {w w' : World} {v : Value} {ts : List T} (l : LevelAt w v ts) (hb : Below w.heap.size w w') : LevelAt w' v ts := by
  obtain ⟨h, ha⟩ := l
  exact ⟨h, ha.below hb⟩
theorem LevelAt.slice {w : World} {v : Value} {ts : List T} (l : LevelAt w v ts) : ∃ a cap, v = .slice a ts.length cap := by
  obtain ⟨h, ha⟩ := l
  exact ha.slice

def KidsEnd (ts : List T) (w : World) (e : Ending) (w' : World) : Prop :=
  ∃ u, e = .returned u ∧ LevelAt w' u (kids ts) ∧ Below w.heap.size w w'

/-- How far argsOf has come. -/
def KidsRel (h : Nat) (ts : List T) (k : Nat) (v : Value) (w wr : World) : Prop :=
  ∃ vs, wr.ownsRow w.heap.size 26 4 v (kids (ts.take k)).length vs ∧ RowV w (h - 1) (kids (ts.take k)) vs ∧ Below w.heap.size w wr

set_option maxRecDepth 100000 in
set_option maxHeartbeats 1600000 in
theorem argsOf_anyK (v : Value) (ts : List T) (w : World) (hl : LevelAt w v ts) (hk : (kids ts).length ≤ 4294967296) (ht : ts.length ≤ 8589934592) :
    Calls Tryz.prog 66 #[v] w (KidsEnd ts w) := by
  obtain ⟨h, ha⟩ := hl
  obtain ⟨a, cap, rfl⟩ := ha.slice
  obtain ⟨i0, hi, hz0, hz1, hz2⟩ := info_parts infoTermL
  have HI := Lib.hid hi; clear hi
  have HZ0 := Lib.hid hz0; clear hz0
  have HZ1 := Lib.hid hz1; clear hz1
  have HZ2 := Lib.hid hz2; clear hz2
  have HA := Lib.hid ha; clear ha
  have HK := Lib.hid hk; clear hk
  obtain ⟨m, hm⟩ : ∃ m, m = ts.length := ⟨_, rfl⟩
  rw [← hm] at HA ⊢ ht
  have HM := Lib.hid hm; clear hm
  go_enter Tryz.func66, Tryz.ntmps66
  go_wp2
  go_loopw [3, 8] (fun b i wr => ∃ k : Nat, k ≤ m ∧ i = .int .i64 k ∧ Hid (KidsRel (h - 1) ts k b w wr)) (fun _ i _ => m - (intOf i).toNat)
  case atStart => exact ⟨0, Nat.zero_le _, rfl, Lib.hid ⟨[], World.ownsRow_nil _ _ _ _, rfl, Below.refl _ _⟩⟩
  case round =>
    obtain ⟨k, hk, rfl, HR⟩ := hrel
    by_cases hlt : k < m
    · obtain ⟨t, ht⟩ : ∃ t, ts[k]? = some t := ⟨_, List.getElem?_eq_getElem (by have := HM.out; omega)⟩
      obtain ⟨h', b, o, kk, nn, s, xs, u', eh, rfl, rfl, hsz, c0, c1, c2, c3, har⟩ := HA.out.at ht
      obtain ⟨a', cap', rfl⟩ := har.slice
      obtain ⟨vs, ho, hv, hb⟩ := HR.out
      have d0 := cell_on hb c0
      have d1 := cell_on hb c1
      have d2 := cell_on hb c2
      have d3 := cell_on hb c3
      clear c0 c1 c2 c3
      have HTK : Hid (kids (ts.take (k + 1)) = kids (ts.take k) ++ xs) := Lib.hid (by rw [tk ts k _ ht, kids_snoc]; rfl)
      have hle := kids_take ts (k + 1)
      have hlx : (kids (ts.take k)).length + xs.length ≤ 4294967296 := by
        rw [HTK.out, List.length_append] at hle
        have := HK.out; omega
      clear hle ht
      obtain ⟨n, hn⟩ : ∃ n, n = (kids (ts.take k)).length := ⟨_, rfl⟩
      rw [← hn] at ho hlx
      have HN := Lib.hid hn; clear hn
      have HO := Lib.hid ho; clear ho
      have HV := Lib.hid hv; clear hv
      have HB := Lib.hid hb; clear hb
      have HBX : Hid (Below w.heap.size w (wr.alloc (.cells #[.int .i64 kk, .int .i64 nn, .string s, .slice a' xs.length cap'] 26))) := Lib.hid (HB.out.alloc HB.out.size _)
      have HHA := Lib.hid har; clear har
      have HHE := Lib.hid eh; clear eh
      rcases HHA.out.cases with ⟨hnil, _⟩ | ⟨h2, b2, o2, cap2, e2, e3, hl3, _, hrow⟩
      · have hx0 : xs.length = 0 := by rw [hnil]; rfl
        rw [hx0] at d3 HBX
        go_wp2_with (first | (at_builtin; refine wpList_app_zero rfl (.tmp 12) (.tmp 14) 24 rfl w.heap.size 26 i0 4 Tryz.underlying24 HI.out _ _ _ rfl (HO.out.alloc _) _ _ rfl ?_))
        go_roundw
        case rel =>
          refine ⟨k + 1, by omega, by go_num, Lib.hid ⟨vs, ?_, ?_, HBX.out⟩⟩
          · rw [HTK.out, hnil, List.append_nil, ← HN.out]
            exact HO.out.alloc _
          · rw [HTK.out, hnil, List.append_nil]
            exact HV.out
        case measure => simp [intOf]; omega
      · obtain ⟨ws, hws, hwc⟩ := RowV.of_row hrow
        have hwl := hws.len
        cases e3
        have hwc' : ∀ (j : Nat) (u : Value), ws[j]? = some u → (wr.alloc (.cells #[.int .i64 kk, .int .i64 nn, .string s, .slice (some ⟨b2, o2, none⟩) xs.length cap'] 26)).cell? (Addr.add ⟨b2, o2, none⟩ j) = some u := fun j u hj => cell_on HBX.out (hwc j u hj)
        have HWC := Lib.hid hwc'; clear hwc' hwc
        have HWL := Lib.hid hwl; clear hwl
        have HWS := Lib.hid hws; clear hws
        clear hrow
        obtain ⟨mx, hmx⟩ : ∃ mx, mx = xs.length := ⟨_, rfl⟩
        rw [← hmx] at hlx d3 HBX HWC HWL
        have HMX := Lib.hid hmx; clear hmx
        go_wp2_with (first | (at_builtin; refine wpList_append_own _ rfl (.tmp 12) (.tmp 14) 24 rfl w.heap.size 26 i0 (.agg #[.int .i64 0, .int .i64 0, .string ByteArray.empty, .slice none 0 0]) 4 56 Tryz.underlying24 HI.out HZ0.out HZ1.out HZ2.out rfl (by decide) _ _ _ rfl (HO.out.alloc _) ⟨b2, o2, none⟩ mx cap' ws rfl HWL.out HWC.out HWS.out.one (by unfold maxLen; omega) (by omega) HBX.out.size ?_))
        intro v' w1 hown' hgr _
        have hb1 : Below w.heap.size w w1 := HBX.out.grown hgr HBX.out.size (fun j hj => (HO.out.lt j hj).1)
        have HO1 := Lib.hid hown'; clear hown'
        have HB1 := Lib.hid hb1; clear hb1 hgr
        go_wp2
        go_roundw
        case rel =>
          refine ⟨k + 1, by omega, by go_num, Lib.hid ⟨vs ++ ws, ?_, ?_, HB1.out⟩⟩
          · rw [HTK.out, List.length_append, ← HN.out, ← HMX.out]
            exact HO1.out
          · rw [HTK.out, show h - 1 - 1 = h2 by have := HHE.out; omega]
            exact HWS.out.app (by have := HV.out; rw [show h - 1 - 1 = h2 by have := HHE.out; omega] at this; exact this)
        case measure => simp [intOf]; omega
    · obtain ⟨vs, ho, hv, hb⟩ := HR.out
      rw [show ts.take k = ts from by rw [List.take_of_length_le]; have := HM.out; omega] at ho hv
      have HE := Lib.hid (show LevelAt wr _ (kids ts) from ⟨_, (hv.below hb).args ho rfl (by have := HK.out; unfold maxLen; omega)⟩)
      have HB := Lib.hid hb
      clear ho hv hb
      go_wp2
      go_ret
      exact ⟨_, rfl, HE.out, HB.out⟩

theorem argsOf_any (v : Value) (ts : List T) (w : World) (hl : LevelAt w v ts) (hk : (kids ts).length ≤ 1048576) (ht : ts.length ≤ 2097152) :
    Calls Tryz.prog 66 #[v] w (KidsEnd ts w) := argsOf_anyK v ts w hl (by omega) (by omega)
end Go.Proofs.YtidbokheeieifaaGreatDoor
namespace Go.Proofs.YtidbokheeieifaaGreatDoor
open Go.RowKit

/-- A term in a row of one cell's length. -/
theorem LevelAt.single {w : World} {h : Nat} {k n : Int} {s : ByteArray} {u : Value} {xs : List T} (b : Nat) (hs : s.size ≤ maxLen) (ha : ArgsAt w 0 h u xs)
    (c0 : w.cell? ⟨b, 0, none⟩ = some (.int .i64 k)) (c1 : w.cell? ⟨b, 1, none⟩ = some (.int .i64 n)) (c2 : w.cell? ⟨b, 2, none⟩ = some (.string s)) (c3 : w.cell? ⟨b, 3, none⟩ = some u) :
    LevelAt w (.slice (some ⟨b, 0, none⟩) 1 1) [.node k n s xs] := by
  refine ⟨h + 1, some ⟨b, 0, none⟩, 1, rfl, by simp [maxLen], Or.inr ⟨b, 0, rfl, Nat.zero_le _, fun i k' n' s' xs' hi => ?_⟩⟩
  match i, hi with
  | 0, hi =>
    simp at hi
    obtain ⟨rfl, rfl, rfl, rfl⟩ := hi
    exact ⟨hs, u, c0, c1, c2, c3, ha⟩
  | i + 1, hi => simp at hi

/-- The first level: the term alone, in a block behind its box. -/
theorem level_first (w : World) {lo h : Nat} {k n : Int} {s : ByteArray} {u : Value} {xs : List T} (hs : s.size ≤ maxLen) (ha : ArgsAt w lo h u xs) :
    LevelAt ((boxed w k n s u).alloc (.cells #[.int .i64 k, .int .i64 n, .string s, u] 26)) (.slice (some ⟨w.heap.size + 1, 0, none⟩) 1 1) [.node k n s xs] := by
  have hbs : (boxed w k n s u).heap.size = w.heap.size + 1 := by simp
  rw [← hbs]
  have hb : Below w.heap.size w (boxed (boxed w k n s u) k n s u) := (boxed_below w k n s u).trans ((boxed_below _ k n s u).mono (boxed_below w k n s u).size)
  obtain ⟨c0, c1, c2, c3⟩ := boxed_cells (Below.refl _ (boxed (boxed w k n s u) k n s u))
  exact LevelAt.single _ hs ((ha.low (Nat.zero_le _)).below hb) c0 c1 c2 c3

theorem single_c (t : T) : cS [t] = cT t := by simp [cS]
theorem single_d (t : T) : dS [t] = dT t := by simp [dS]
end Go.Proofs.YtidbokheeieifaaGreatDoor
namespace Go.Proofs.YtidbokheeieifaaGreatDoor
open Go.RowKit

def OkN : T → Prop
  | .node k n s xs => NodeOk k n s xs.length
theorem okT_N (t : T) : OkT t ↔ OkN t ∧ ∀ x ∈ kT t, OkT x := by
  obtain ⟨k, n, s, xs⟩ := t
  exact okT_node k n s xs
theorem okS_kids (ts : List T) : (∀ t ∈ ts, OkT t) ↔ (∀ t ∈ ts, OkN t) ∧ ∀ t ∈ kids ts, OkT t := by
  constructor
  · intro h
    refine ⟨fun t ht => ((okT_N t).1 (h t ht)).1, fun x hx => ?_⟩
    obtain ⟨t, ht, hx⟩ := List.mem_flatMap.1 hx
    exact ((okT_N t).1 (h t ht)).2 x hx
  · rintro ⟨h1, h2⟩ t ht
    exact (okT_N t).2 ⟨h1 t ht, fun x hx => h2 x (List.mem_flatMap.2 ⟨t, ht, hx⟩)⟩

/-- The index of a bad node, or a number below 0. -/
def IdxEnd (ts : List T) (w : World) (e : Ending) (w' : World) : Prop := ∃ r : Int, e = .returned (.int .i64 r) ∧ (0 ≤ r ↔ ∃ t ∈ ts, ¬ OkN t) ∧ Below w.heap.size w w'

set_option maxRecDepth 100000 in
set_option maxHeartbeats 1600000 in
theorem idxF_any (v : Value) (ts : List T) (w : World) (hl : LevelAt w v ts) (ht : ts.length ≤ 2097152) :
    Calls Tryz.prog 91 #[v, .func (.func 68) #[] #[]] w (IdxEnd ts w) := by
  obtain ⟨h, ha⟩ := hl
  obtain ⟨a, cap, rfl⟩ := ha.slice
  have HA := Lib.hid ha; clear ha
  obtain ⟨m, hm⟩ : ∃ m, m = ts.length := ⟨_, rfl⟩
  rw [← hm] at HA ht ⊢
  have HM := Lib.hid hm; clear hm
  go_enter Tryz.func91, Tryz.ntmps91
  go_wp2
  go_loopw [5, 8] (fun _ i wr => ∃ k : Nat, k ≤ m ∧ i = .int .i64 k ∧ Hid (∀ j t, j < k → ts[j]? = some t → OkN t) ∧ Hid (Below w.heap.size w wr)) (fun _ i _ => m - (intOf i).toNat)
  case atStart => exact ⟨0, Nat.zero_le _, rfl, Lib.hid (fun j t hj => by omega), Lib.hid (Below.refl _ _)⟩
  case round =>
    obtain ⟨k, hk, rfl, HO, HB⟩ := hrel
    by_cases hlt : k < m
    · obtain ⟨t, ht'⟩ : ∃ t, ts[k]? = some t := ⟨_, List.getElem?_eq_getElem (by have := HM.out; omega)⟩
      obtain ⟨h', b, o, kk, nn, s, xs, u', eh, rfl, rfl, hsz, c0, c1, c2, c3, har⟩ := HA.out.at ht'
      obtain ⟨a', cap', rfl⟩ := har.slice
      have d0 := cell_on HB.out c0
      have d1 := cell_on HB.out c1
      have d2 := cell_on HB.out c2
      have d3 := cell_on HB.out c3
      clear c0 c1 c2 c3 har eh
      have HT := Lib.hid ht'; clear ht'
      have HS := Lib.hid hsz; clear hsz
      go_wp2_with fail
      refine (bad_any kk nn s a' xs.length cap' _ HS.out).mono ?_
      rintro e w1 ⟨q, rfl, hq, hb1⟩
      have HQ := Lib.hid hq; clear hq
      have HB1 := Lib.hid (HB.out.trans (hb1.mono HB.out.size)); clear hb1
      cases q with
      | true =>
        go_wp2
        go_ret
        exact ⟨k, rfl, ⟨fun _ => ⟨_, List.mem_of_getElem? HT.out, HQ.out.1 (by simp)⟩, fun _ => by omega⟩, HB1.out⟩
      | false =>
        go_wp2
        go_roundw
        case rel =>
          refine ⟨k + 1, by omega, by go_num, Lib.hid (fun j t hj hjt => ?_), HB1⟩
          by_cases hjk : j = k
          · subst hjk
            rw [HT.out] at hjt
            cases hjt
            exact Classical.byContradiction fun hno => by have := HQ.out.2 hno; simp at this
          · exact HO.out j t (by omega) hjt
        case measure => simp [intOf]; omega
    · go_wp2
      go_ret
      refine ⟨-1, rfl, ⟨fun h => by omega, fun ⟨t, hmem, hno⟩ => ?_⟩, HB.out⟩
      obtain ⟨j, hj⟩ := List.mem_iff_getElem?.1 hmem
      have hjl := (List.getElem?_eq_some_iff.1 hj).1
      exact absurd (HO.out j t (by have := HM.out; omega) hj) hno

set_option maxRecDepth 100000 in
set_option maxHeartbeats 800000 in
theorem contF_any (v : Value) (ts : List T) (w : World) (hl : LevelAt w v ts) (ht : ts.length ≤ 2097152) :
    Calls Tryz.prog 67 #[v, .func (.func 68) #[] #[]] w (TellsT (∃ t ∈ ts, ¬ OkN t) w) := by
  have HL := Lib.hid hl; clear hl
  obtain ⟨a, cap, rfl⟩ := HL.out.slice
  have HT := Lib.hid ht; clear ht
  go_enter Tryz.func67, Tryz.ntmps67
  go_wp2_with (go_at_call 91; refine (idxF_any _ ts _ HL.out HT.out).mono ?_; rintro e w1 ⟨r, rfl, hr, hb⟩; have HR := Lib.hid hr; clear hr; have HB := Lib.hid hb; clear hb)
  go_ret
  exact ⟨_, rfl, by simpa using HR.out, HB.out⟩

set_option maxRecDepth 100000 in
set_option maxHeartbeats 3200000 in
theorem validT_any (v : Value) (t : T) (lo h : Nat) (w : World) (ht : TermAt w lo h v t) (hw : wT t ≤ 1048576) :
    Calls Tryz.prog 41 #[v] w (TellsT (ValidT t) w) := by
  obtain ⟨k, n, s, u, xs, rfl, rfl, hs, ha⟩ := ht
  obtain ⟨a, cap, rfl⟩ := ha.slice
  have hcb : cT (.node k n s xs) ≤ 1048577 := by have := cT_le (.node k n s xs); omega
  have HL := Lib.hid (level_first w (k := k) (n := n) hs ha)
  have HB0 : Hid (Below w.heap.size w ((boxed w k n s (.slice a xs.length cap)).alloc (.cells #[.int .i64 k, .int .i64 n, .string s, .slice a xs.length cap] 26))) := Lib.hid ((boxed_below w k n s _).trans ((boxed_below _ k n s _).mono (boxed_below w k n s _).size))
  obtain ⟨t0, ht0⟩ : ∃ t0, t0 = T.node k n s xs := ⟨_, rfl⟩
  rw [← ht0] at HL hcb ⊢
  have HC0 : Hid (0 + cS [t0] = cT t0 ∧ 0 + dS [t0] = dT t0 ∧ (OkT t0 ↔ ∀ t ∈ [t0], OkT t)) := Lib.hid ⟨by rw [single_c]; omega, by rw [single_d]; omega, by simp⟩
  have HCB := Lib.hid hcb
  clear hs ha hw ht0 hcb
  go_enter Tryz.func41, Tryz.ntmps41
  go_wp2
  go_loopw [3, 4, 5] (fun c d v wr => ∃ (cn dn : Nat) (ts : List T), c = .int .i64 cn ∧ d = .int .i64 dn ∧ cn ≤ 60 ∧ dn ≤ 16 ∧ Hid (cn + cS ts = cT t0 ∧ dn + dS ts = dT t0 ∧ (OkT t0 ↔ ∀ t ∈ ts, OkT t)) ∧ Hid (LevelAt wr v ts) ∧ Hid (Below w.heap.size w wr)) (fun c _ _ _ => 61 - (intOf c).toNat)
  case atStart => exact ⟨0, 0, [t0], rfl, rfl, Nat.zero_le _, Nat.zero_le _, HC0, HL, HB0⟩
  case round =>
    obtain ⟨cn, dn, ts, rfl, rfl, hcn, hdn, HC, HLV, HB⟩ := hrel
    obtain ⟨la, lc, rfl⟩ := HLV.out.slice
    have hlk := len_le_cS (kids ts)
    have hk := cS_kids ts
    have hml : ts.length ≤ 1048577 := by have := HC.out.1; have := HCB.out; omega
    have HK := Lib.hid (And.intro hk hlk)
    clear hk hlk
    obtain ⟨m, hm⟩ : ∃ m, m = ts.length := ⟨_, rfl⟩
    rw [← hm] at hml HLV HK ⊢
    have HM := Lib.hid hm
    clear hm
    by_cases h0 : 0 < m
    · have hd := dS_kids ts (by intro e; have := HM.out; rw [e] at this; simp at this; omega)
      have HD := Lib.hid hd; clear hd
      have HLK : Hid ((kids ts).length ≤ 1048576) := Lib.hid (by have := HC.out.1; have := HCB.out; have := HK.out; omega)
      by_cases h60 : cn + m ≤ 60
      · by_cases h16 : dn + 1 ≤ 16
        · go_wp2_with fail
          refine (contF_any _ ts _ HLV.out (by have := HM.out; omega)).mono ?_
          rintro e w1 ⟨q, rfl, hq, hb1⟩
          have HQ := Lib.hid hq; clear hq
          have HB1 := Lib.hid (HB.out.trans (hb1.mono HB.out.size))
          have HLV1 := Lib.hid (HLV.out.below hb1)
          clear hb1
          cases q with
          | true =>
            go_wp2
            go_ret
            refine ⟨false, rfl, ⟨fun h => by simp at h, fun hv => ?_⟩, HB1.out⟩
            obtain ⟨t, hmem, hno⟩ := HQ.out.1 (by simp)
            exact absurd (((okS_kids ts).1 (HC.out.2.2.1 hv.2.2)).1 t hmem) hno
          | false =>
            go_wp2_with fail
            refine (argsOf_any _ ts _ HLV1.out HLK.out (by have := HM.out; omega)).mono ?_
            rintro e w2 ⟨v2, rfl, hl2, hb2⟩
            have HL2 := Lib.hid hl2; clear hl2
            have HB2 := Lib.hid (HB1.out.trans (hb2.mono HB1.out.size)); clear hb2
            go_wp2
            go_roundw
            case rel =>
              refine ⟨cn + m, dn + 1, kids ts, by go_num, by go_num, by omega, by omega, Lib.hid ⟨?_, ?_, ?_⟩, HL2, HB2⟩
              · have := HC.out.1; have := HK.out.1; omega
              · have := HC.out.2.1; have := HD.out; omega
              · rw [HC.out.2.2, okS_kids]
                constructor
                · exact fun h => h.2
                · refine fun h => ⟨fun t hmem => ?_, h⟩
                  exact Classical.byContradiction fun hno => by have := HQ.out.2 ⟨t, hmem, hno⟩; simp at this
            case measure => simp [intOf]; omega
        · go_wp2
          go_ret
          refine ⟨false, rfl, ⟨fun h => by simp at h, fun hv => ?_⟩, HB.out⟩
          have := hv.2.1; have := HC.out.2.1; have := HD.out
          omega
      · go_wp2
        go_ret
        refine ⟨false, rfl, ⟨fun h => by simp at h, fun hv => ?_⟩, HB.out⟩
        have := hv.1; have := HC.out.1; have := HK.out.1
        omega
    · have hm0 : m = 0 := by omega
      subst hm0
      go_wp2
      go_ret
      have h1 : ts = [] := List.eq_nil_of_length_eq_zero (by have := HM.out; omega)
      refine ⟨true, rfl, ⟨fun _ => ?_, fun _ => rfl⟩, HB.out⟩
      have hc := HC.out
      rw [h1] at hc
      exact ⟨by have := hc.1; simp [cS] at this; omega, by have := hc.2.1; simp [dS] at this; omega, hc.2.2.2 (by simp)⟩
end Go.Proofs.YtidbokheeieifaaGreatDoor
