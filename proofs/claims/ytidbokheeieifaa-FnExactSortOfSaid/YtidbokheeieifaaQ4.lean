/-
  Which operator a name finds. No walk.
  Variables with their sorts; spec.l6Var looks one up.
  What the walks over terms share: a struct in a block, an argument's cells, an answer that leaves what was there. No walk.
  The sort of a term: pure.
  Strings as lists of bytes: when two are equal. No program.
-/
import Derived.Test.YtidbokheeieifaaQ2
import Derived.Test.YtidbokheeieifaaQ3
import Derived.OwnWalk
import Derived.Laws.AppendOwn
import Derived.Laws.AppendOwnNone
import Derived.WalkLawsBesides
import Derived.BigQuiet
import Derived.Deep.QuietTactic
import Derived.WalkKit
namespace Go.Proofs.Ytidbokheeieifaa
open Go.RowKit

/-- The operator that there is not. -/
def zOp : OpD := ⟨⟨#[]⟩, [], ⟨#[]⟩⟩
/-- The operator that the name finds: a built-in one, or the first of the list. -/
def findD (ds : List OpD) (s : ByteArray) : Option OpD := if builtinB s then some ⟨s, [kWord, kWord], kWord⟩ else ds.find? (fun d => d.name.toList == s.toList)
/-- What a call that looks for an operator answers: it, in memory of the call's own. -/
def FindE (o : Option OpD) (w : World) (e : Ending) (w' : World) : Prop :=
  ∃ u, e = .returned (.tuple #[ov (o.getD zOp).name u (o.getD zOp).res, .bool o.isSome]) ∧ w'.ownsRow w.heap.size 9 1 u (o.getD zOp).args.length ((o.getD zOp).args.map Value.string) ∧ Below w.heap.size w w'

theorem findD_built {ds : List OpD} {s : ByteArray} (h : builtinB s = true) : findD ds s = some ⟨s, [kWord, kWord], kWord⟩ := by unfold findD; rw [h]; rfl
theorem findD_at {ds : List OpD} {s : ByteArray} {k : Nat} {d : OpD} (h : builtinB s = false) (hn : ∀ x ∈ ds.take k, (x.name.toList == s.toList) = false) (hk : ds[k]? = some d) (hd : (d.name.toList == s.toList) = true) : findD ds s = some d := by
  unfold findD
  rw [h]
  have e : ds = ds.take k ++ d :: ds.drop (k + 1) := by
    have hl := (List.getElem?_eq_some_iff.1 hk)
    obtain ⟨hl, he⟩ := hl
    rw [← he, ← List.drop_eq_getElem_cons hl, List.take_append_drop]
  have h0 : (ds.take k).find? (fun d => d.name.toList == s.toList) = none := List.find?_eq_none.2 (fun x hx => by simpa using hn x hx)
  show ds.find? _ = some d
  rw [e, List.find?_append, h0, List.find?_cons, hd]
  rfl
theorem findD_none {ds : List OpD} {s : ByteArray} (h : builtinB s = false) (hn : ∀ x ∈ ds, (x.name.toList == s.toList) = false) : findD ds s = none := by
  unfold findD
  rw [h]
  exact List.find?_eq_none.2 (fun x hx => by simpa using hn x hx)

/-- A source of strings: nil, or cells from an address on. -/
theorem StrsAt.src {w : World} {a : Option Addr} {n c : Nat} {ps : List ByteArray} (h : StrsAt w (.slice a n c) ps) : n = ps.length ∧ ((a = none ∧ ps = []) ∨ ∃ ad, a = some ad ∧ ∀ j p, ps[j]? = some p → w.cell? (ad.add j) = some (.string p)) := by
  obtain ⟨a', c', e, h⟩ := h
  simp only [Value.slice.injEq] at e
  obtain ⟨rfl, rfl, rfl⟩ := e
  refine ⟨rfl, ?_⟩
  rcases h with rfl | ⟨b, o, rfl, h⟩
  · cases a with
    | none => exact Or.inl ⟨rfl, rfl⟩
    | some ad => exact Or.inr ⟨ad, rfl, fun j p hp => by simp at hp⟩
  · refine Or.inr ⟨_, rfl, fun j p hp => ?_⟩
    have e : (⟨b, o, none⟩ : Addr).add j = ⟨b, o + j, none⟩ := by
      unfold Addr.add
      split
      · rename_i h; subst h; rfl
      · rfl
    rw [e]; exact h j p hp

theorem results_op {fn : Func} {a b : Tmp} {t : TypeId} {tmps : Array Value} {ad : Addr} (h : fn.results = #[.cell a t, .tmp b]) (ha : tmps.getD a undef = .pointer (some ad)) (P : Program) (w : World) {x : Value}
    (hx : (loadVar t ad).run P w = .ok x w) : (results fn tmps).run P w = .ok (.tuple #[x, tmps.getD b undef]) w := by
  have h2 : tmps[a]?.getD undef = .pointer (some ad) := by rw [← ha]; simp
  simp [results, h, h2, asAddr, hx, Result.andThen]

theorem run_append_none_cap {P : Program} {w : World} (base : Nat) (t ty e : TypeId) (i : TypeInfo) (size : Nat) (ht : P.underlying t = some (.slice e)) (hi : P.info? e = some i)
    (v : Value) (n : Nat) (xs : List Value) (hown : w.ownsRow base e size v n xs) (c : Nat) :
    (Builtin.append_ #[t, t] ty #[v, .slice none 0 c]).run P w = .ok v w := by
  rcases hown.2 with ⟨rfl, rfl⟩ | ⟨g, cap, cur, rfl, _, _, hnc, _⟩
  · simp [Builtin.append_, run_underlying ht, sizeOf, typeInfo, hi, Builtin.lenOf, Builtin.firstCells]
  · simp [Builtin.append_, run_underlying ht, sizeOf, typeInfo, hi, Builtin.lenOf, Builtin.firstCells, hnc, storeCells]
theorem wpList_append_none_cap {P : Program} {w : World} {ops : Array Oper} {rest : List Oper} {o : Oper} {a : Act} {Q : Exit → Act → World → Prop} (hgd : o.guard = none) (s x : Operand) (t : TypeId)
    (ho : o.op = .call { callee := .builtin .append, args := #[s, x], argTypes := #[t, t] })
    (base : Nat) (e : TypeId) (i : TypeInfo) (size : Nat) (ht : P.underlying t = some (.slice e)) (hi : P.info? e = some i)
    (v : Value) (n : Nat) (xs : List Value) (hs : a.eval s = v) (hown : w.ownsRow base e size v n xs) (c : Nat) (hx : a.eval x = .slice none 0 c)
    (h : wpList P ops Q rest (a.put o.dst v) w) : wpList P ops Q (o :: rest) a w := by
  refine wpList_plain hgd fun K hK => ?_
  have hrun := run_append_none_cap (P := P) (w := w) base t o.type e i size ht hi v n xs hown c
  unfold Oper.wp
  simp [execOp, ho, resolve, invoke, builtin, hs, hx, hrun, Result.andThen]
  exact hK _ _ h

theorem own_formF {w : World} {B n size : Nat} {e : TypeId} {v : Value} {xs : List Value} (h : w.ownsRow B e size v n xs) : ∃ a c, v = .slice a n c := by
  rcases h.2 with ⟨rfl, h0⟩ | ⟨g, cap, cur, rfl, _⟩
  · exact ⟨none, 0, by rw [h0]⟩
  · exact ⟨_, _, rfl⟩

/-- The three cells of a struct of an operator. -/
theorem cells_of3 {Y : World} {b : Nat} {x0 x1 x2 : Value} {t : TypeId} (hb : Y.heap[b]? = some (.cells #[x0, x1, x2] t (0, 0))) : (Y.cell? ⟨b, 0, none⟩ = some x0 ∧ Y.cell? ⟨b, 1, none⟩ = some x1 ∧ Y.cell? ⟨b, 2, none⟩ = some x2) ∧
    (Y.frozen? ⟨b, 0, none⟩ = false ∧ Y.frozen? ⟨b, 1, none⟩ = false ∧ Y.frozen? ⟨b, 2, none⟩ = false) :=
  ⟨⟨by rw [cell_of_row Y b 0 _ _ _ hb]; rfl, by rw [cell_of_row Y b 1 _ _ _ hb]; rfl, by rw [cell_of_row Y b 2 _ _ _ hb]; rfl⟩, frozen_of_row Y b 0 _ _ hb, frozen_of_row Y b 1 _ _ hb, frozen_of_row Y b 2 _ _ hb⟩

/-- The answer stays through the stores into the result's box. -/
theorem FindE.fin {o : Option OpD} {w wr : World} {u : Value} {B : Nat} (hB : w.heap.size + 2 ≤ B) (ho : wr.ownsRow B 9 1 u (o.getD zOp).args.length ((o.getD zOp).args.map Value.string)) (hb : Below w.heap.size w wr) (v0 v1 v2 : Value) :
    FindE o w (.returned (.tuple #[ov (o.getD zOp).name u (o.getD zOp).res, .bool o.isSome])) (((wr.setCell ⟨w.heap.size + 1, 0, none⟩ v0).setCell ⟨w.heap.size + 1, 1, none⟩ v1).setCell ⟨w.heap.size + 1, 2, none⟩ v2) :=
  ⟨u, rfl, own_low (row_off (row_off (row_off ho (by omega)) (by omega)) (by omega)) (by omega), ((hb.setCell (Nat.le_succ _) _).setCell (Nat.le_succ _) _).setCell (Nat.le_succ _) _⟩
end Go.Proofs.Ytidbokheeieifaa
namespace Go.Proofs.Ytidbokheeieifaa
open Go.RowKit

/-- The slice value u holds the variables vs with their sorts. -/
def VsAt (w : World) (u : Value) (vs : List (ByteArray × ByteArray)) : Prop :=
  ∃ a cap, u = .slice a vs.length cap ∧ (vs = [] ∨ ∃ b o, a = some ⟨b, o, none⟩ ∧ ∀ i p, vs[i]? = some p → w.cell? ⟨b, o + i * 2, none⟩ = some (.string p.1) ∧ w.cell? ⟨b, o + i * 2 + 1, none⟩ = some (.string p.2))
theorem VsAt.slice {w : World} {u : Value} {vs : List (ByteArray × ByteArray)} (h : VsAt w u vs) : ∃ a cap, u = .slice a vs.length cap := by
  obtain ⟨a, cap, e, _⟩ := h; exact ⟨a, cap, e⟩
theorem VsAt.keep {w w' : World} {u : Value} {vs : List (ByteArray × ByteArray)} (h : VsAt w u vs) (hk : ∀ (ad : Addr) v, w.cell? ad = some v → w'.cell? ad = some v) : VsAt w' u vs := by
  obtain ⟨a, cap, e, h⟩ := h
  rcases h with h | ⟨b, o, rfl, h⟩
  · exact ⟨a, cap, e, Or.inl h⟩
  · exact ⟨_, cap, e, Or.inr ⟨b, o, rfl, fun i p hp => ⟨hk _ _ (h i p hp).1, hk _ _ (h i p hp).2⟩⟩⟩
theorem VsAt.below {w w' : World} {u : Value} {vs : List (ByteArray × ByteArray)} (h : VsAt w u vs) (hb : Below w.heap.size w w') : VsAt w' u vs :=
  h.keep fun ad v hv => by rw [hb.cell (World.block_lt_of_cell? w _ hv)]; exact hv
theorem VsAt.at {w : World} {u : Value} {vs : List (ByteArray × ByteArray)} (h : VsAt w u vs) {k : Nat} {p : ByteArray × ByteArray} (hp : vs[k]? = some p) :
    ∃ b o cap, u = .slice (some ⟨b, o, none⟩) vs.length cap ∧ w.cell? ⟨b, o + k * 2, none⟩ = some (.string p.1) ∧ w.cell? ⟨b, o + k * 2 + 1, none⟩ = some (.string p.2) := by
  obtain ⟨a, cap, rfl, h⟩ := h
  rcases h with rfl | ⟨b, o, rfl, h⟩
  · simp at hp
  · exact ⟨b, o, cap, rfl, h k p hp⟩

/-- The sort of the variable that the name finds first, and nothing where it finds none. -/
def envOf (vs : List (ByteArray × ByteArray)) (nm : ByteArray) : ByteArray := ((vs.find? (fun p => p.1.toList == nm.toList)).map Prod.snd).getD ⟨#[]⟩
theorem envOf_at {vs : List (ByteArray × ByteArray)} {nm : ByteArray} {k : Nat} {p : ByteArray × ByteArray} (hn : ∀ x ∈ vs.take k, (x.1.toList == nm.toList) = false) (hk : vs[k]? = some p) (hp : (p.1.toList == nm.toList) = true) : envOf vs nm = p.2 := by
  have hlt := (List.getElem?_eq_some_iff.1 hk).1
  have e : vs = vs.take k ++ p :: vs.drop (k + 1) := by
    have := List.getElem?_eq_some_iff.1 hk
    obtain ⟨_, h⟩ := this
    rw [← h, List.getElem_cons_drop, List.take_append_drop]
  unfold envOf
  rw [e, List.find?_append, List.find?_eq_none.2 (fun x hx => by simpa using hn x hx)]
  simp [hp]
theorem envOf_none {vs : List (ByteArray × ByteArray)} {nm : ByteArray} (hn : ∀ x ∈ vs, (x.1.toList == nm.toList) = false) : envOf vs nm = ⟨#[]⟩ := by
  unfold envOf
  rw [List.find?_eq_none.2 (fun x hx => by simpa using hn x hx)]
  rfl

set_option maxRecDepth 100000 in
set_option maxHeartbeats 1600000 in
theorem sEnv_any (u : Value) (nm : ByteArray) (vs : List (ByteArray × ByteArray)) (w : World) (hl : vs.length ≤ 1048576) (hv : VsAt w u vs) :
    Calls Try.prog 72 #[u, .string nm] w (fun e w' => e = .returned (.string (envOf vs nm)) ∧ w' = w) := by
  have HV := Lib.hid hv
  obtain ⟨a, cap, rfl⟩ := hv.slice
  clear hv
  obtain ⟨n, hn⟩ : ∃ n, n = vs.length := ⟨_, rfl⟩
  rw [← hn] at HV hl ⊢
  have HN := Lib.hid hn; clear hn
  go_enter Try.func72, Try.ntmps72
  go_wp2
  go_loop [5] (fun i => ∃ k : Nat, k ≤ n ∧ i = .int .i64 k ∧ Hid (∀ x ∈ vs.take k, (x.1.toList == nm.toList) = false)) (fun i => n - (intOf i).toNat)
  case atStart => exact ⟨0, Nat.zero_le _, rfl, Lib.hid (by simp)⟩
  case round =>
    obtain ⟨k, hk, rfl, HF⟩ := hrel
    by_cases hlt : k < n
    · obtain ⟨p, hp⟩ : ∃ p, vs[k]? = some p := ⟨_, List.getElem?_eq_getElem (by have := HN.out; omega)⟩
      obtain ⟨b, o, c', e, c0, c1⟩ := HV.out.at hp
      obtain ⟨rfl, -, rfl⟩ : a = some ⟨b, o, none⟩ ∧ n = vs.length ∧ cap = c' := by simpa using e
      have HP := Lib.hid hp; clear hp e
      obtain ⟨p1, p2⟩ := p
      by_cases hq : (p1.toList == nm.toList) = true
      · have HE : Hid (envOf vs nm = p2) := Lib.hid (envOf_at HF.out HP.out hq)
        go_wp2
        go_ret
        exact ⟨by rw [HE.out]; rfl, rfl⟩
      · have hq2 : (p1.toList == nm.toList) = false := by simpa using hq
        clear hq
        have HF2 : Hid (∀ x ∈ vs.take (k + 1), (x.1.toList == nm.toList) = false) := Lib.hid (fun x hx => by
          rw [List.take_add_one, HP.out] at hx
          rcases List.mem_append.1 hx with h | h
          · exact HF.out x h
          · simp at h; subst h; exact hq2)
        go_wp2
        go_round
        case rel => exact ⟨k + 1, by omega, by go_num, HF2⟩
        case measure => simp [intOf]; omega
    · have HE : Hid (envOf vs nm = ⟨#[]⟩) := Lib.hid (envOf_none (by
        have h := HF.out
        rw [List.take_of_length_le (by have := HN.out; omega)] at h
        exact h))
      go_wp2
      go_ret
      exact ⟨by rw [HE.out]; rfl, rfl⟩
end Go.Proofs.Ytidbokheeieifaa
namespace Go.Proofs.Ytidbokheeieifaa
open Go.RowKit

/-- A struct in a block of its own. -/
abbrev boxed (w : World) (k n : Int) (s : ByteArray) (u : Value) : World := w.alloc (.cells #[.int .i64 k, .int .i64 n, .string s, u] 26)
theorem boxed_below (w : World) (k n : Int) (s : ByteArray) (u : Value) : Below w.heap.size w (boxed w k n s u) := (Below.refl _ _).alloc (Nat.le_refl _) _
theorem boxed_cells {w wr : World} {k n : Int} {s : ByteArray} {u : Value} (hb : Below (boxed w k n s u).heap.size (boxed w k n s u) wr) :
    wr.cell? ⟨w.heap.size, 0, none⟩ = some (.int .i64 k) ∧ wr.cell? ⟨w.heap.size, 1, none⟩ = some (.int .i64 n) ∧ wr.cell? ⟨w.heap.size, 2, none⟩ = some (.string s) ∧ wr.cell? ⟨w.heap.size, 3, none⟩ = some u := by
  have hlt : w.heap.size < (boxed w k n s u).heap.size := by simp
  have c : ∀ j v, #[Value.int .i64 k, .int .i64 n, .string s, u][j]? = some v → wr.cell? ⟨w.heap.size, j, none⟩ = some v := by
    intro j v hv
    rw [hb.cell (by exact hlt), World.cell?_alloc_mark w _ 26 (0, 0) j]
    exact hv
  exact ⟨c 0 _ rfl, c 1 _ rfl, c 2 _ rfl, c 3 _ rfl⟩

/-- What a round over the arguments sees. -/
theorem ArgsAt.at {w : World} {lo h : Nat} {a : Option Addr} {m cap : Nat} {ts : List T} {i : Nat} {t : T} (ha : ArgsAt w lo h (.slice a m cap) ts) (ht : ts[i]? = some t) :
    ∃ h' b o k n s xs u', h = h' + 1 ∧ a = some ⟨b, o, none⟩ ∧ t = .node k n s xs ∧ s.size ≤ maxLen ∧ w.cell? ⟨b, o + i * 4, none⟩ = some (.int .i64 k) ∧ w.cell? ⟨b, o + i * 4 + 1, none⟩ = some (.int .i64 n) ∧
      w.cell? ⟨b, o + i * 4 + 2, none⟩ = some (.string s) ∧ w.cell? ⟨b, o + i * 4 + 3, none⟩ = some u' ∧ ArgsAt w lo h' u' xs := by
  rcases ha.cases with ⟨rfl, _⟩ | ⟨h', b, o, cap', e, e2, _, _, hc⟩
  · simp at ht
  · obtain ⟨k, n, s, xs⟩ := t
    obtain ⟨hs, u', c0, c1, c2, c3, hr⟩ := hc i k n s xs ht
    simp only [Value.slice.injEq] at e2
    exact ⟨h', b, o, k, n, s, xs, u', e, e2.1, rfl, hs, c0, c1, c2, c3, hr⟩

theorem cell_on {w w' : World} (hb : Below w.heap.size w w') {ad : Addr} {v : Value} (hv : w.cell? ad = some v) : w'.cell? ad = some v := by
  rw [hb.cell (World.block_lt_of_cell? w _ hv)]; exact hv

/-- A call that hands back a number and leaves what was there. -/
def NumB (x : Int) (w : World) (e : Ending) (w' : World) : Prop := e = .returned (.int .i64 x) ∧ Below w.heap.size w w'

theorem by_height {X : Nat → Prop} (step : ∀ h, (∀ h', h = h' + 1 → X h') → X h) (h : Nat) : X h := by
  induction h with
  | zero => exact step 0 (fun h' e => by omega)
  | succ h ih => exact step (h + 1) (fun h' e => by cases e; exact ih)

theorem cS_take (ts : List T) (k : Nat) : cS (ts.take k) ≤ cS ts := by
  have h : cS ts = cS (ts.take k) + cS (ts.drop k) := by
    unfold cS
    rw [← List.sum_append, ← List.map_append, List.take_append_drop]
  omega

theorem dS_snoc (l : List T) (t : T) : dS (l ++ [t]) = max (dS l) (dT t) := by simp [dS, List.foldl_append]
theorem dT_node (k n : Int) (s : ByteArray) (xs : List T) : dT (.node k n s xs) = dS xs + 1 := by rw [dT]; rfl
end Go.Proofs.Ytidbokheeieifaa
namespace Go.Proofs.Ytidbokheeieifaa
open Go.RowKit

abbrev zE : ByteArray := ⟨#[]⟩
/-- The sort of a node whose arguments have the sorts zs. -/
def headT (ds : List OpD) (vs : List (ByteArray × ByteArray)) (k : Int) (s : ByteArray) (zs : List ByteArray) : ByteArray :=
  if k = 3 then kWord else if k = 1 then envOf vs s else if k = 2 then
    match findD ds s with
    | some d => if zs.map ByteArray.toList = d.args.map ByteArray.toList ∧ (∀ a ∈ d.args, ¬ a.toList = []) then d.res else zE
    | none => zE
  else zE
/-- The sort of a term. -/
def sortT (ds : List OpD) (vs : List (ByteArray × ByteArray)) : T → ByteArray
  | .node k _ s xs => headT ds vs k s (xs.map (sortT ds vs))
theorem sortT_node (ds : List OpD) (vs : List (ByteArray × ByteArray)) (k n : Int) (s : ByteArray) (xs : List T) : sortT ds vs (.node k n s xs) = headT ds vs k s (xs.map (sortT ds vs)) := by rw [sortT]

/-- A call that hands back a text and leaves what was there. -/
def TextB (s : ByteArray) (w : World) (e : Ending) (w' : World) : Prop := e = .returned (.string s) ∧ Below w.heap.size w w'

theorem head_word (ds : List OpD) (vs : List (ByteArray × ByteArray)) (s : ByteArray) (zs : List ByteArray) : headT ds vs 3 s zs = kWord := by simp [headT]
theorem head_var (ds : List OpD) (vs : List (ByteArray × ByteArray)) (s : ByteArray) (zs : List ByteArray) : headT ds vs 1 s zs = envOf vs s := by simp [headT]
theorem head_other {k : Int} (ds : List OpD) (vs : List (ByteArray × ByteArray)) (s : ByteArray) (zs : List ByteArray) (h1 : k ≠ 1) (h2 : k ≠ 2) (h3 : k ≠ 3) : headT ds vs k s zs = zE := by simp [headT, h1, h2, h3]
theorem head_none {ds : List OpD} {s : ByteArray} (vs : List (ByteArray × ByteArray)) (zs : List ByteArray) (h : findD ds s = none) : headT ds vs 2 s zs = zE := by simp [headT, h]
theorem head_len {ds : List OpD} {s : ByteArray} {d : OpD} (vs : List (ByteArray × ByteArray)) (zs : List ByteArray) (h : findD ds s = some d) (hl : d.args.length ≠ zs.length) : headT ds vs 2 s zs = zE := by
  unfold headT
  rw [if_neg (by decide), if_neg (by decide), if_pos rfl, h]
  exact if_neg (fun e => hl (by have := congrArg List.length e.1; simpa using this.symm))
theorem head_bad {ds : List OpD} {s z a : ByteArray} {d : OpD} {k : Nat} (vs : List (ByteArray × ByteArray)) (zs : List ByteArray) (h : findD ds s = some d) (hz : zs[k]? = some z) (ha : d.args[k]? = some a) (hb : ¬ z.toList = a.toList ∨ a.toList = []) : headT ds vs 2 s zs = zE := by
  unfold headT
  rw [if_neg (by decide), if_neg (by decide), if_pos rfl, h]
  refine if_neg (fun e => ?_)
  rcases hb with hb | hb
  · have e1 := congrArg (·[k]?) e.1
    simp only [List.getElem?_map, hz, ha, Option.map_some, Option.some.injEq] at e1
    exact hb e1
  · exact e.2 a (List.mem_of_getElem? ha) hb
theorem head_good {ds : List OpD} {s : ByteArray} {d : OpD} (vs : List (ByteArray × ByteArray)) (zs : List ByteArray) (h : findD ds s = some d) (hl : d.args.length = zs.length)
    (hg : ∀ (k : Nat) (z a : ByteArray), zs[k]? = some z → d.args[k]? = some a → z.toList = a.toList ∧ ¬ a.toList = []) : headT ds vs 2 s zs = d.res := by
  unfold headT
  rw [if_neg (by decide), if_neg (by decide), if_pos rfl, h]
  refine if_pos ⟨List.ext_getElem? fun k => ?_, fun a ha => ?_⟩
  · simp only [List.getElem?_map]
    cases hz : zs[k]? with
    | none =>
      have := List.getElem?_eq_none_iff.1 hz
      rw [List.getElem?_eq_none (by omega)]
    | some z =>
      have hk := (List.getElem?_eq_some_iff.1 hz).1
      obtain ⟨a, ha⟩ : ∃ a, d.args[k]? = some a := ⟨_, List.getElem?_eq_getElem (by omega)⟩
      rw [ha]
      simp [(hg k z a hz ha).1]
  · obtain ⟨k, hk⟩ := List.mem_iff_getElem?.1 ha
    have hlt := (List.getElem?_eq_some_iff.1 hk).1
    obtain ⟨z, hz⟩ : ∃ z, zs[k]? = some z := ⟨_, List.getElem?_eq_getElem (by omega)⟩
    exact (hg k z a hz hk).2
end Go.Proofs.Ytidbokheeieifaa
namespace Go.Proofs.Ytidbokheeieifaa
open Go

/-- A string as the list of its bytes. -/
def key (s : ByteArray) : List UInt8 := s.data.toList
theorem key_inj {a b : ByteArray} (h : key a = key b) : a = b := by
  obtain ⟨⟨x⟩⟩ := a; obtain ⟨⟨y⟩⟩ := b
  unfold key at h
  simp at h
  rw [h]
theorem toList_key (a : ByteArray) : a.toList = key a := ByteArray.toList_eq a
theorem same_iff (a b : ByteArray) : (a.toList == b.toList) = true ↔ a = b := by
  rw [beq_iff_eq, toList_key, toList_key]
  exact ⟨key_inj, fun h => by rw [h]⟩
end Go.Proofs.Ytidbokheeieifaa
