/-
  What the laws on functions share: facts that hold as long as some blocks stay as they are. No walk.
  laws.toTerm and laws.toTermS copy a term into memory of the call's own.
  Lists of Binds: what they hold, whose they are. No walk.
  The first Bind of a name; spec.l7At and spec.FindBind.
-/
import Derived.Test.YtkgpkphacjjlgaaQ5
import Derived.Test.YtkgpkphacjjlgaaQ6
import Derived.Test.YtkgpkphacjjlgaaQ1
import Derived.Test.YtkgpkphacjjlgaaQ2
import Derived.WalkLawsBesides
import Derived.BigQuiet
import Derived.Deep.QuietTactic
namespace Go.Proofs.Ytkgpkphacjjlgaa
open Go.RowKit

/-- P holds in every world in which the blocks from lo to hi are as they are here. -/
def Kept (lo hi : Nat) (P : World → Prop) (w : World) : Prop := hi ≤ w.heap.size ∧ ∀ w', Same lo hi w w' → P w'
theorem Kept.now {lo hi : Nat} {P : World → Prop} {w : World} (h : Kept lo hi P w) : P w := h.2 w fun _ _ _ => rfl
theorem Kept.same {lo hi : Nat} {P : World → Prop} {w w1 : World} (h : Kept lo hi P w) (hs : Same lo hi w w1) (hz : w.heap.size ≤ w1.heap.size) : Kept lo hi P w1 :=
  ⟨Nat.le_trans h.1 hz, fun w' h' => h.2 w' fun b b1 b2 => (h' b b1 b2).trans (hs b b1 b2)⟩
theorem Kept.below {lo hi : Nat} {P : World → Prop} {w w1 : World} (h : Kept lo hi P w) (hb : Below w.heap.size w w1) : Kept lo hi P w1 :=
  h.same (fun b _ b2 => hb.block b (Nat.lt_of_lt_of_le b2 h.1)) hb.size
theorem Kept.out {lo hi l2 h2 : Nat} {P : World → Prop} {w w1 : World} (h : Kept lo hi P w) (ho : Out l2 h2 w w1) (hd : hi ≤ l2 ∨ h2 ≤ lo) : Kept lo hi P w1 :=
  h.same (fun b b1 b2 => ho.2.2.2.2 b (Nat.lt_of_lt_of_le b2 h.1) (by omega)) ho.2.2.2.1
theorem Kept.grown {lo hi : Nat} {P : World → Prop} {w w1 : World} {row : Option Nat} (h : Kept lo hi P w) (hg : w.grownBy w1 row) (hd : ∀ k, row = some k → k < lo ∨ hi ≤ k) : Kept lo hi P w1 :=
  h.same (fun b b1 b2 => hg.block b (Nat.lt_of_lt_of_le b2 h.1) (fun e => by have := hd b e.symm; omega)) hg.size
theorem Kept.mono {lo hi : Nat} {P Q : World → Prop} {w : World} (h : Kept lo hi P w) (hq : ∀ w', P w' → Q w') : Kept lo hi Q w := ⟨h.1, fun w' hs => hq w' (h.2 w' hs)⟩

theorem ArgsAt.same {w w' : World} {lo h : Nat} {u : Value} {ts : List T} (k : ArgsAt w lo h u ts) (hs : Same lo w.heap.size w w') : ArgsAt w' lo h u ts :=
  k.keep fun ad v hlo hv => by
    have hl := World.block_lt_of_cell? w _ hv
    unfold World.cell? at *
    rw [hs ad.block hlo hl]; exact hv
theorem TermAt.same {w w' : World} {lo h : Nat} {v : Value} {t : T} (k : TermAt w lo h v t) (hs : Same lo w.heap.size w w') : TermAt w' lo h v t := by
  obtain ⟨k, n, s, u, xs, e1, e2, hsz, ha⟩ := k
  exact ⟨k, n, s, u, xs, e1, e2, hsz, ha.same hs⟩
theorem OwnA.same {w w' : World} {h lo hi : Nat} {u : Value} {ts : List T} (k : OwnA w h lo hi u ts) (hs : Same lo hi w w') : OwnA w' h lo hi u ts := k.keep fun b b1 b2 => hs b b1 b2

theorem TermAt.kept {w : World} {lo h : Nat} {v : Value} {t : T} (k : TermAt w lo h v t) : Kept lo w.heap.size (fun w' => TermAt w' lo h v t) w := ⟨Nat.le_refl _, fun _ hs => k.same hs⟩
/-- A term in a box, its rows and the box in the blocks from lo to hi. -/
def TBox (lo b : Nat) (k n : Int) (s : ByteArray) (u : Value) (h : Nat) (t : T) (w : World) : Prop := w.heap[b]? = some (trow k n s u) ∧ TermAt w lo h (tv k n s u) t
theorem TBox.kept {lo b h : Nat} {k n : Int} {s : ByteArray} {u : Value} {t : T} {w : World} (x : TBox lo b k n s u h t w) (hb : lo ≤ b) : Kept lo w.heap.size (TBox lo b k n s u h t) w :=
  ⟨Nat.le_refl _, fun _ hs => ⟨(hs b hb (Array.getElem?_eq_some_iff.1 x.1).1).trans x.1, x.2.same hs⟩⟩
/-- The same, and its rows are a call's own. -/
def TBoxO (lo b : Nat) (k n : Int) (s : ByteArray) (u : Value) (h : Nat) (xs : List T) (w : World) : Prop := TBox lo b k n s u h (.node k n s xs) w ∧ OwnA w h lo b u xs
theorem TBoxO.kept {lo b h : Nat} {k n : Int} {s : ByteArray} {u : Value} {xs : List T} {w : World} (x : TBoxO lo b k n s u h xs w) (hb : lo ≤ b) : Kept lo w.heap.size (TBoxO lo b k n s u h xs) w := by
  have hl := (Array.getElem?_eq_some_iff.1 x.1.1).1
  exact ⟨Nat.le_refl _, fun w' hs => ⟨(x.1.kept hb).2 w' hs, x.2.same fun c c1 c2 => hs c c1 (by omega)⟩⟩
/-- What a copy leaves, in its box. -/
theorem tbox_of {w1 W1 : World} {lo h : Nat} {k n : Int} {s : ByteArray} {u : Value} {xs : List T} (hs : s.size ≤ maxLen) (ha : ArgsAt w1 lo h u xs) (ho : OwnA w1 h lo w1.heap.size u xs) (hW : W1 = boxed w1 k n s u) : TBoxO lo w1.heap.size k n s u h xs W1 := by
  have hb : Below w1.heap.size w1 W1 := by rw [hW]; exact boxed_below _ _ _ _ _
  exact ⟨⟨by rw [hW]; exact heap_new _ _ rfl, ⟨_, _, _, _, xs, rfl, rfl, hs, ha.below hb⟩⟩, ho.keep fun b _ b2 => hb.block b b2⟩
/-- An argument of the law in its box, and what lies below it. -/
def TArg (b : Nat) (k n : Int) (s : ByteArray) (u : Value) (h : Nat) (t : T) (w : World) : Prop := w.heap[b]? = some (.cells #[.int .i64 k, .int .i64 n, .string s, u] 45 (0, 0)) ∧ TermAt w 0 h (tv k n s u) t
theorem TArg.kept {b h : Nat} {k n : Int} {s : ByteArray} {u : Value} {t : T} {w : World} (x : TArg b k n s u h t w) : Kept 0 w.heap.size (TArg b k n s u h t) w :=
  ⟨Nat.le_refl _, fun _ hs => ⟨(hs b (Nat.zero_le _) (Array.getElem?_eq_some_iff.1 x.1).1).trans x.1, x.2.same hs⟩⟩
theorem cells_of4L {Y : World} {b : Nat} {x0 x1 x2 x3 : Value} {t : TypeId} (hb : Y.heap[b]? = some (.cells #[x0, x1, x2, x3] t (0, 0))) : Y.cell? ⟨b, 0, none⟩ = some x0 ∧ Y.cell? ⟨b, 1, none⟩ = some x1 ∧ Y.cell? ⟨b, 2, none⟩ = some x2 ∧ Y.cell? ⟨b, 3, none⟩ = some x3 := by
  have h0 := cell_of_row Y b 0 _ _ _ hb
  have h1 := cell_of_row Y b 1 _ _ _ hb
  have h2 := cell_of_row Y b 2 _ _ _ hb
  have h3 := cell_of_row Y b 3 _ _ _ hb
  simp at h0 h1 h2 h3
  exact ⟨h0, h1, h2, h3⟩

/-- A copy, of whatever height. -/
def CopyE (r : T) (w : World) (e : Ending) (w' : World) : Prop := ∃ H, CopyR H r w e w'

/-- A term to be read, of whatever height. -/
def ReadE (r : T) (w : World) (e : Ending) (w' : World) : Prop := ∃ H, LCopyT H r w e w'
theorem CopyE.read {r : T} {w : World} {e : Ending} {w' : World} (c : CopyE r w e w') : ReadE r w e w' := by
  obtain ⟨H, k, n, s, u, xs, rfl, rfl, hs, ho, hb⟩ := c
  obtain ⟨a, cap, rfl⟩ := ho.slice
  exact ⟨H, k, n, s, a, _, cap, rfl, ⟨_, _, _, _, xs, rfl, rfl, hs, ho.args (Nat.le_refl _)⟩, hb⟩
theorem tread_of {w1 W1 : World} {lo h : Nat} {k n : Int} {s : ByteArray} {u : Value} {t : T} (ht : TermAt w1 lo h (tv k n s u) t) (hW : W1 = boxed w1 k n s u) : TBox lo w1.heap.size k n s u h t W1 := by
  have hb : Below w1.heap.size w1 W1 := by rw [hW]; exact boxed_below _ _ _ _ _
  exact ⟨by rw [hW]; exact heap_new _ _ rfl, ht.below hb⟩

/-- A term in a new box, behind a region that makes the box somewhere among its calls. -/
def BoxT (W : World) (r : T) (pu : Value) (wc : World) : Prop :=
  ∃ B k n s a m c H, pu = .pointer (some ⟨B, 0, none⟩) ∧ wc.heap[B]? = some (trow k n s (.slice a m c)) ∧ TermAt wc W.heap.size H (tv k n s (.slice a m c)) r ∧ Below W.heap.size W wc ∧ W.heap.size ≤ B
theorem boxT_new {W w1 : World} {B h lo : Nat} {r : T} {k n : Int} {s : ByteArray} {a : Option Addr} {m c : Nat} (hB : Below W.heap.size W w1) (ht : TermAt w1 lo h (tv k n s (.slice a m c)) r) (hlo : W.heap.size ≤ lo) (hb : B = w1.heap.size) :
    BoxT W r (.pointer (some ⟨B, 0, none⟩)) (w1.alloc (.cells #[.int .i64 k, .int .i64 n, .string s, .slice a m c] 29)) := by
  subst hb
  have hb1 : Below w1.heap.size w1 (w1.alloc (.cells #[.int .i64 k, .int .i64 n, .string s, .slice a m c] 29)) := (Below.refl _ _).alloc (Nat.le_refl _) _
  exact ⟨_, k, n, s, a, m, c, h, rfl, heap_new _ _ rfl, (ht.below hb1).low hlo, hB.trans (hb1.mono hB.size), hB.size⟩
theorem heap_set_atK {w : World} {b : Nat} {cs : Array Value} {e : TypeId} (h : w.heap[b]? = some (.cells cs e (0, 0))) (j : Nat) (v : Value) : (w.setCell ⟨b, j, none⟩ v).heap[b]? = some (.cells (cs.setIfInBounds j v) e (0, 0)) := by
  unfold World.setCell
  simp [Array.getElem?_modify, h]
theorem boxT_set {W w1 : World} {B h lo : Nat} {r : T} {x0 x1 x2 x3 : Value} {k n : Int} {s : ByteArray} {a : Option Addr} {m c : Nat} (hB : Below W.heap.size W w1) (ht : TermAt w1 lo h (tv k n s (.slice a m c)) r) (hZ : w1.heap[B]? = some (.cells #[x0, x1, x2, x3] 29 (0, 0))) (hlo : B < lo) (hb : W.heap.size ≤ B) :
    BoxT W r (.pointer (some ⟨B, 0, none⟩)) ((((w1.setCell ⟨B, 0, none⟩ (.int .i64 k)).setCell ⟨B, 1, none⟩ (.int .i64 n)).setCell ⟨B, 2, none⟩ (.string s)).setCell ⟨B, 3, none⟩ (.slice a m c)) := by
  have st : ∀ (X : World) (j : Nat) (v : Value), TermAt X lo h (tv k n s (.slice a m c)) r → TermAt (X.setCell ⟨B, j, none⟩ v) lo h (tv k n s (.slice a m c)) r := fun X j v q => by
    obtain ⟨k, n, s, u, xs, e1, e2, hs, ha⟩ := q
    exact ⟨k, n, s, u, xs, e1, e2, hs, ha.grown (set_grown X B j v) (fun i e => by cases e; exact hlo)⟩
  exact ⟨_, k, n, s, a, m, c, h, rfl, heap_set_atK (heap_set_atK (heap_set_atK (heap_set_atK hZ 0 _) 1 _) 2 _) 3 _, (st _ _ _ (st _ _ _ (st _ _ _ (st _ _ _ ht)))).low (by omega), (((hB.setCell hb _).setCell hb _).setCell hb _).setCell hb _, hb⟩
theorem zk_new {w w' : World} (hb : Below (w.alloc (.cells #[.int .i64 0, .int .i64 0, .string ⟨#[]⟩, .slice none 0 0] 29)).heap.size (w.alloc (.cells #[.int .i64 0, .int .i64 0, .string ⟨#[]⟩, .slice none 0 0] 29)) w') : w'.heap[w.heap.size]? = some (trow 0 0 ⟨#[]⟩ (.slice none 0 0)) :=
  (hb.block _ (by simp)).trans (heap_new _ _ rfl)
theorem zk_drew {w w' : World} (hb : Below (w.alloc (.cells #[.int .i64 0, .int .i64 0, .string ⟨#[]⟩, .slice none 0 0] 29)).drew.heap.size (w.alloc (.cells #[.int .i64 0, .int .i64 0, .string ⟨#[]⟩, .slice none 0 0] 29)).drew w') : w'.heap[w.heap.size]? = some (trow 0 0 ⟨#[]⟩ (.slice none 0 0)) :=
  zk_new (bel_drew hb)
theorem zk_keep {w w' : World} {b : Nat} {o : Obj} (h : w.heap[b]? = some o) (hb : Below w.heap.size w w') : w'.heap[b]? = some o := (hb.block b (Array.getElem?_eq_some_iff.1 h).1).trans h
theorem al_belK (w : World) (o : Obj) : Below w.heap.size w (w.alloc o) := (Below.refl _ _).alloc (Nat.le_refl _) o
theorem bel_alK {w w' : World} (h : Below w.heap.size w w') (o : Obj) : Below w.heap.size w (w'.alloc o) := h.alloc h.size o

/-- How many nodes a changed term has. -/
theorem cS_map (f : T → T) (M : Nat) (xs : List T) (h : ∀ x ∈ xs, cT (f x) ≤ cT x * M) : cS (xs.map f) ≤ cS xs * M := by
  induction xs with
  | nil => simp [cS]
  | cons x r ih =>
    have h1 := h x (by simp)
    have h2 := ih (fun y hy => h y (by simp [hy]))
    simp only [cS, List.map_cons, List.sum_cons, Nat.add_mul] at *
    omega
theorem cT_map (F : ByteArray → Option T) (R : ByteArray → ByteArray) (M : Nat) (hF : ∀ s u, F s = some u → cT u ≤ M) (hM : 1 ≤ M) : ∀ t, cT (mapT F R t) ≤ cT t * M
  | .node k n s xs => by
    have hm : cS (xs.map (mapT F R)) ≤ cS xs * M := cS_map _ M xs fun x _ => cT_map F R M hF hM x
    have hn : ∀ s', cT (.node k n s' (xs.map (mapT F R))) ≤ cT (.node k n s xs) * M := fun s' => by
      rw [cT_node, cT_node, Nat.add_mul]; omega
    rw [mapT_node]
    split
    · split
      · rename_i u hu
        have := hF _ _ hu
        rw [cT_node, Nat.add_mul]; omega
      · exact hn _
    · exact hn _
end Go.Proofs.Ytkgpkphacjjlgaa
namespace Go.Proofs.Ytkgpkphacjjlgaa
open Go.RowKit

/-- A copy of the arguments: a slice whose rows are all new. -/
def CopyS (h : Nat) (ts : List T) (w : World) (e : Ending) (w' : World) : Prop :=
  ∃ u, e = .returned u ∧ (ArgsAt w' w.heap.size h u ts ∧ OwnA w' h w.heap.size w'.heap.size u ts) ∧ Below w.heap.size w w'
def CopyT (h : Nat) (t : T) (w : World) (e : Ending) (w' : World) : Prop :=
  ∃ v, e = .returned v ∧ TermAt w' w.heap.size h v t ∧ Below w.heap.size w w'

/-- The copy's rows are its own besides. -/
def CopyTO (h : Nat) (t : T) (w : World) (e : Ending) (w' : World) : Prop :=
  ∃ k n s u xs, e = .returned (tv k n s u) ∧ t = .node k n s xs ∧ s.size ≤ maxLen ∧ (ArgsAt w' w.heap.size h u xs ∧ OwnA w' h w.heap.size w'.heap.size u xs) ∧ Below w.heap.size w w'
theorem CopyTO.copy {h : Nat} {t : T} {w : World} {e : Ending} {w' : World} (c : CopyTO h t w e w') : CopyT h t w e w' := by
  obtain ⟨k, n, s, u, xs, e1, e2, hs, ⟨ha, _⟩, hb⟩ := c
  exact ⟨_, e1, ⟨k, n, s, u, xs, rfl, e2, hs, ha⟩, hb⟩

def CopySAt (lo h : Nat) : Prop := ∀ (u : Value) (ts : List T) (w : World), ArgsAt w lo h u ts → ts.length + wS ts ≤ 1048576 →
  Calls Try.prog 74 #[u] w (CopyS h ts w)

set_option maxRecDepth 100000 in
set_option maxHeartbeats 800000 in
theorem toT_of {lo h : Nat} (hS : CopySAt lo h) (k n : Int) (s : ByteArray) (u : Value) (xs : List T) (w : World) (hs : s.size ≤ maxLen) (ha : ArgsAt w lo h u xs) (hw : wT (.node k n s xs) ≤ 1048576) :
    Calls Try.prog 30 #[tv k n s u] w (CopyTO h (.node k n s xs) w) := by
  have HA := Lib.hid ha; clear ha
  have hwx : xs.length + wS xs ≤ 1048576 := by rw [wT_node] at hw; omega
  clear hw
  go_enter Try.func30, Try.ntmps30
  go_wp2_with fail
  obtain ⟨W, hW⟩ : ∃ W, W = ((w.alloc (.cells #[.int .i64 k, .int .i64 n, .string s, u] 45)).alloc (.cells #[.int .i64 0, .int .i64 0, .string ⟨#[]⟩, .slice none 0 0] 29)).alloc (.cells #[.int .i64 k, .int .i64 n, .string s, .slice none 0 0] 29) := ⟨_, rfl⟩
  have hWs : W.heap.size = w.heap.size + 1 + 1 + 1 := by rw [hW]; simp
  have r1 : W.heap[w.heap.size + 1]? = some (.cells #[.int .i64 0, .int .i64 0, .string ⟨#[]⟩, .slice none 0 0] 29 (0, 0)) := by rw [hW]; exact heap_mid _ _ _ (by simp)
  have r2 : W.heap[w.heap.size + 1 + 1]? = some (.cells #[.int .i64 k, .int .i64 n, .string s, .slice none 0 0] 29 (0, 0)) := by rw [hW]; exact heap_new _ _ (by simp)
  have hbW : Below w.heap.size w W := by rw [hW]; exact (((Below.refl _ _).alloc (Nat.le_refl _) _).alloc (by simp) _).alloc (by simp; omega) _
  have HBW := Lib.hid hbW; clear hbW
  rw [← hW]
  clear hW
  have HWS := Lib.hid hWs; clear hWs
  refine (hS u xs W (HA.out.below HBW.out) hwx).mono ?_
  rintro e w1 ⟨u1, rfl, ⟨ha1, ho1⟩, hb1⟩
  obtain ⟨ua, uc, rfl⟩ := ha1.slice
  have q1 := hb1.block (w.heap.size + 1) (by have := HWS.out; omega)
  have q2 := hb1.block (w.heap.size + 1 + 1) (by have := HWS.out; omega)
  rw [r1] at q1
  rw [r2] at q2
  clear r1 r2
  have a0 := cell_of_row w1 (w.heap.size + 1) 0 _ _ _ q1
  have a1 := cell_of_row w1 (w.heap.size + 1) 1 _ _ _ q1
  have a2 := cell_of_row w1 (w.heap.size + 1) 2 _ _ _ q1
  have a3 := cell_of_row w1 (w.heap.size + 1) 3 _ _ _ q1
  have f0 := frozen_of_row w1 (w.heap.size + 1) 0 _ _ q1
  have f1 := frozen_of_row w1 (w.heap.size + 1) 1 _ _ q1
  have f2 := frozen_of_row w1 (w.heap.size + 1) 2 _ _ q1
  have f3 := frozen_of_row w1 (w.heap.size + 1) 3 _ _ q1
  have b0 := cell_of_row w1 (w.heap.size + 1 + 1) 0 _ _ _ q2
  have b1 := cell_of_row w1 (w.heap.size + 1 + 1) 1 _ _ _ q2
  have b2 := cell_of_row w1 (w.heap.size + 1 + 1) 2 _ _ _ q2
  have b3 := cell_of_row w1 (w.heap.size + 1 + 1) 3 _ _ _ q2
  have g3 := frozen_of_row w1 (w.heap.size + 1 + 1) 3 _ _ q2
  simp at a0 a1 a2 a3 b0 b1 b2 b3
  clear q1 q2
  have HA1 := Lib.hid ha1; clear ha1
  have HO1 := Lib.hid ho1; clear ho1
  have HB1 := Lib.hid hb1; clear hb1
  go_wp2
  (try simp only [Exit.inBlock, Exit.then])
  refine bodyPost_ret (v := tv k n s (.slice ua xs.length uc)) ?hr rfl ?_
  case hr =>
    rw [results_cell (a := 2) (t := 29) (ad := ⟨w.heap.size + 1, 0, none⟩) rfl rfl]
    go_simp
  have hlt : ∀ B : Nat, B < W.heap.size → ∀ i, some B = some i → i < W.heap.size := fun B h i e => by cases e; exact h
  refine ⟨k, n, s, _, xs, rfl, rfl, hs, ⟨?_, ?_⟩, ?_⟩
  · have h2 : w.heap.size + 1 < W.heap.size := by have := HWS.out; omega
    have h3 : w.heap.size + 1 + 1 < W.heap.size := by have := HWS.out; omega
    refine ArgsAt.low (lo := W.heap.size) (by have := HWS.out; omega) ?_
    refine ArgsAt.grown ?_ (set_grown _ (w.heap.size + 1) _ _) (hlt _ h2)
    refine ArgsAt.grown ?_ (set_grown _ (w.heap.size + 1) _ _) (hlt _ h2)
    refine ArgsAt.grown ?_ (set_grown _ (w.heap.size + 1) _ _) (hlt _ h2)
    refine ArgsAt.grown ?_ (set_grown _ (w.heap.size + 1) _ _) (hlt _ h2)
    exact ArgsAt.grown HA1.out (set_grown _ (w.heap.size + 1 + 1) _ _) (hlt _ h3)
  · have h4 := HWS.out
    exact (((((HO1.out.off (Or.inl (by omega)) _ _).off (Or.inl (by omega)) _ _).off (Or.inl (by omega)) _ _).off (Or.inl (by omega)) _ _).off (Or.inl (by omega)) _ _).wide (by omega) (by simp)
  · have hb := HBW.out.trans (HB1.out.mono HBW.out.size)
    exact ((((hb.setCell (by simp; omega) _).setCell (by simp) _).setCell (by simp) _).setCell (by simp) _).setCell (by simp) _

/-- How far the copy of a row has come; the rows below it lie in blocks up to B. -/
def CopyRel (h g n k B : Nat) (ts : List T) (w : World) : Prop :=
  ∃ (xs : List Value) (U : Nat → Value) (L R : Nat → Nat), w.ownsRow g 29 4 (.slice (some ⟨g, 0, none⟩) n n) n xs ∧ (∀ i kk nn s txs, i < k → ts[i]? = some (T.node kk nn s txs) →
    s.size ≤ maxLen ∧ xs[i * 4]? = some (.int .i64 kk) ∧ xs[i * 4 + 1]? = some (.int .i64 nn) ∧ xs[i * 4 + 2]? = some (.string s) ∧ xs[i * 4 + 3]? = some (U i) ∧ ArgsAt w (g + 1) h (U i) txs ∧ OwnA w h (L i) (R i) (U i) txs) ∧
    (∀ i, i < k → g < L i ∧ L i ≤ R i ∧ R i ≤ B) ∧ (∀ i j, i < j → j < k → R i ≤ L j)

theorem CopyRel.below {h g n k B : Nat} {ts : List T} {w w' : World} (c : CopyRel h g n k B ts w) (hb : Below w.heap.size w w') (hB : B ≤ w.heap.size) : CopyRel h g n k B ts w' := by
  obtain ⟨xs, U, L, R, ho, hx, hl, hd⟩ := c
  refine ⟨xs, U, L, R, keep_own ho hb, fun i kk nn s txs hi ht => ?_, hl, hd⟩
  obtain ⟨hs, x0, x1, x2, x3, ha, hoa⟩ := hx i kk nn s txs hi ht
  exact ⟨hs, x0, x1, x2, x3, ha.below hb, hoa.keep fun b b1 b2 => hb.block b (by have := hl i hi; omega)⟩

theorem CopyRel.cells {h g n k B : Nat} {ts : List T} {w : World} (c : CopyRel h g n k B ts w) (hk : k < n) (j : Nat) (hj : j < 4) :
    (∃ v, w.cell? ⟨g, k * 4 + j, none⟩ = some v) ∧ w.frozen? ⟨g, k * 4 + j, none⟩ = false := by
  obtain ⟨xs, U, L, R, ho, _⟩ := c
  have hl := ho.1
  refine ⟨?_, ho.frozenAt _⟩
  rw [ho.cellAt (k * 4 + j) (by omega)]
  exact ⟨_, List.getElem?_eq_getElem (by omega)⟩

theorem set4 {xs : List Value} {a p : Nat} {v0 v1 v2 v3 : Value} (h0 : a ≠ p) (h1 : a + 1 ≠ p) (h2 : a + 2 ≠ p) (h3 : a + 3 ≠ p) :
    ((((xs.set a v0).set (a + 1) v1).set (a + 2) v2).set (a + 3) v3)[p]? = xs[p]? := by
  rw [List.getElem?_set_ne h3, List.getElem?_set_ne h2, List.getElem?_set_ne h1, List.getElem?_set_ne h0]

theorem CopyRel.step {h g n k B B' : Nat} {ts : List T} {w : World} (c : CopyRel h g n k B ts w) (hk : k < n) {kk nn : Int} {s : ByteArray} {txs : List T} {u : Value} (ht : ts[k]? = some (T.node kk nn s txs)) (hs : s.size ≤ maxLen) (ha : ArgsAt w (g + 1) h u txs)
    (hoa : OwnA w h B B' u txs) (hgB : g < B) (hBB : B ≤ B') :
    CopyRel h g n (k + 1) B' ts ((((w.setCell ⟨g, k * 4, none⟩ (.int .i64 kk)).setCell ⟨g, k * 4 + 1, none⟩ (.int .i64 nn)).setCell ⟨g, k * 4 + 2, none⟩ (.string s)).setCell ⟨g, k * 4 + 3, none⟩ u) := by
  obtain ⟨xs, U, L, R, ho, hx, hlr, hd⟩ := c
  have hl : xs.length = n * 4 := ho.1
  have o1 := (ho.stored (k * 4) (.int .i64 kk)).1
  have o2 := (o1.stored (k * 4 + 1) (.int .i64 nn)).1
  have o3 := (o2.stored (k * 4 + 2) (.string s)).1
  have o4 := (o3.stored (k * 4 + 3) u).1
  have up : ∀ {u' : Value} {txs' : List T}, ArgsAt w (g + 1) h u' txs' → ArgsAt ((((w.setCell ⟨g, k * 4, none⟩ (.int .i64 kk)).setCell ⟨g, k * 4 + 1, none⟩ (.int .i64 nn)).setCell ⟨g, k * 4 + 2, none⟩ (.string s)).setCell ⟨g, k * 4 + 3, none⟩ u) (g + 1) h u' txs' := by
    intro u' txs' q
    have hg : ∀ j, some g = some j → j < g + 1 := fun j e => by cases e; omega
    refine ArgsAt.grown ?_ (set_grown _ g _ _) hg
    refine ArgsAt.grown ?_ (set_grown _ g _ _) hg
    refine ArgsAt.grown ?_ (set_grown _ g _ _) hg
    exact ArgsAt.grown q (set_grown _ g _ _) hg
  have upo : ∀ {u' : Value} {txs' : List T} {l r : Nat}, g < l → OwnA w h l r u' txs' → OwnA ((((w.setCell ⟨g, k * 4, none⟩ (.int .i64 kk)).setCell ⟨g, k * 4 + 1, none⟩ (.int .i64 nn)).setCell ⟨g, k * 4 + 2, none⟩ (.string s)).setCell ⟨g, k * 4 + 3, none⟩ u) h l r u' txs' :=
    fun hgl q => (((q.off (Or.inl hgl) _ _).off (Or.inl hgl) _ _).off (Or.inl hgl) _ _).off (Or.inl hgl) _ _
  refine ⟨_, fun i => if i = k then u else U i, fun i => if i = k then B else L i, fun i => if i = k then B' else R i, o4, fun i kk' nn' s' txs' hi ht' => ?_, fun i hi => ?_, fun i j hij hj => ?_⟩
  · by_cases hik : i = k
    · subst hik
      rw [ht] at ht'
      cases ht'
      refine ⟨hs, ?_, ?_, ?_, ?_, by simpa using up ha, by simpa using upo hgB hoa⟩
      · simp [List.getElem?_set]; omega
      · simp [List.getElem?_set]; omega
      · simp [List.getElem?_set]; omega
      · simp [List.getElem?_set]; omega
    · obtain ⟨hs', x0, x1, x2, x3, ha', hoa'⟩ := hx i kk' nn' s' txs' (by omega) ht'
      refine ⟨hs', ?_, ?_, ?_, ?_, by simpa [hik] using up ha', by simpa [hik] using upo (hlr i (by omega)).1 hoa'⟩
      · rw [set4 (by omega) (by omega) (by omega) (by omega)]; exact x0
      · rw [set4 (by omega) (by omega) (by omega) (by omega)]; exact x1
      · rw [set4 (by omega) (by omega) (by omega) (by omega)]; exact x2
      · rw [set4 (by omega) (by omega) (by omega) (by omega)]; simpa [hik] using x3
  · by_cases hik : i = k
    · simp [hik]; omega
    · have := hlr i (by omega)
      simp [hik]; omega
  · have hik : i ≠ k := by omega
    by_cases hjk : j = k
    · have := hlr i (by omega)
      simp [hik, hjk]; omega
    · simpa [hik, hjk] using hd i j hij (by omega)

theorem CopyRel.done {h g n B : Nat} {ts : List T} {w : World} (c : CopyRel h g n n B ts w) (hn : n = ts.length) (hl : n ≤ maxLen) (hB : g < B) : ArgsAt w g (h + 1) (.slice (some ⟨g, 0, none⟩) n n) ts ∧ OwnA w (h + 1) g B (.slice (some ⟨g, 0, none⟩) n n) ts := by
  obtain ⟨xs, U, L, R, ho, hx, hlr, hd⟩ := c
  have hii : ∀ {i : Nat} {t : T}, ts[i]? = some t → i < n := fun {i} {t} ht => by have := (List.getElem?_eq_some_iff.1 ht).1; omega
  constructor
  · refine ⟨_, n, by rw [hn], by omega, Or.inr ⟨g, 0, rfl, Nat.le_refl _, fun i kk nn s txs ht => ?_⟩⟩
    have hi := hii ht
    obtain ⟨hs, x0, x1, x2, x3, ha, _⟩ := hx i kk nn s txs hi ht
    refine ⟨hs, U i, ?_, ?_, ?_, ?_, ha.low (by omega)⟩
    · rw [Nat.zero_add, ho.cellAt (i * 4) (by omega), x0]
    · rw [Nat.zero_add, ho.cellAt (i * 4 + 1) (by omega), x1]
    · rw [Nat.zero_add, ho.cellAt (i * 4 + 2) (by omega), x2]
    · rw [Nat.zero_add, ho.cellAt (i * 4 + 3) (by omega), x3]
  · subst hn
    refine ⟨_, _, rfl, Or.inr ⟨g, xs, U, L, R, rfl, Nat.le_refl _, hB, ho, fun i kk nn s txs ht => ?_, fun i j hij hj => Or.inl (hd i j hij hj)⟩⟩
    obtain ⟨_, _, _, _, x3, _, hoa⟩ := hx i kk nn s txs (hii ht) ht
    have := hlr i (hii ht)
    exact ⟨x3, by omega, by omega, by omega, hoa⟩

set_option maxRecDepth 100000 in
set_option maxHeartbeats 1600000 in
theorem toS_some {lo h : Nat} (hS : CopySAt lo h) (b o cap : Nat) (ts : List T) (w : World) (hw : ts.length + wS ts ≤ 1048576)
    (hc : RowAt w lo h b o ts) :
    Calls Try.prog 74 #[.slice (some ⟨b, o, none⟩) ts.length cap] w (CopyS (h + 1) ts w) := by
  obtain ⟨i0, hi, hz0, hz1, hz2⟩ := info_parts infoTerm
  have HI := Lib.hid hi; clear hi
  have HZ0 := Lib.hid hz0; clear hz0
  have HZ1 := Lib.hid hz1; clear hz1
  have HZ2 := Lib.hid hz2; clear hz2
  have HC := Lib.hid hc; clear hc
  have HSS := Lib.hid hS; clear hS
  have HWT := Lib.hid hw
  obtain ⟨n, hn⟩ : ∃ n, n = ts.length := ⟨_, rfl⟩
  have hl : n ≤ 1048576 := by omega
  clear hw
  rw [← hn]
  have HN := Lib.hid hn; clear hn
  go_enter Try.func74, Try.ntmps74
  go_wp2_with (first | (at_make; refine wpList_make_full _ rfl (.tmp 6) (.tmp 6) 27 rfl w.heap.size 29 i0 (.agg #[.int .i64 0, .int .i64 0, .string ByteArray.empty, .slice none 0 0]) 4 Try.underlying27 HI.out HZ0.out HZ1.out _ _ _ _ n rfl rfl rfl rfl ?m1 ?m2 ?m3 ?_))
  case m1 => rw [HZ2.out]; omega
  case m2 => unfold maxLen; omega
  case m3 => exact Nat.le_refl _
  intro w1 hown hgrow
  have hb : Below w.heap.size w w1 := (Below.refl _ _).grown hgrow (Nat.le_refl _) (fun k hk => by cases hk)
  have hrel0 : CopyRel h w.heap.size n 0 w1.heap.size ts w1 := ⟨_, fun _ => undef, fun _ => 0, fun _ => 0, hown, fun i _ _ _ _ hi => by omega, fun i hi => by omega, fun i j hij hj => by omega⟩
  have HR0 := Lib.hid hrel0; clear hrel0 hown
  have hsz : w.heap.size < w1.heap.size := by
    obtain ⟨_, _, _, _, ho, _⟩ := HR0.out
    exact (ho.lt w.heap.size rfl).2
  have HB := Lib.hid hb; clear hb hgrow
  go_wp2
  go_loopw [4] (fun i wr => ∃ k : Nat, k ≤ n ∧ i = .int .i64 k ∧ Hid (CopyRel h w.heap.size n k wr.heap.size ts wr) ∧ Hid (Below w.heap.size w wr) ∧ w.heap.size < wr.heap.size) (fun i _ => n - (intOf i).toNat)
  case atStart => exact ⟨0, Nat.zero_le _, rfl, HR0, HB, hsz⟩
  case round =>
    obtain ⟨k, hk, rfl, HR, HBR, hsr⟩ := hrel
    by_cases hlt : k < n
    · obtain ⟨t, ht⟩ : ∃ t, ts[k]? = some t := ⟨_, List.getElem?_eq_getElem (by have := HN.out; omega)⟩
      obtain ⟨tk', tn, tsn, txs⟩ := t
      obtain ⟨hszn, u', c0, c1, c2, c3, har⟩ := HC.out k _ _ _ _ ht
      have keep : ∀ {ad : Addr} {v : Value}, w.cell? ad = some v → wr.cell? ad = some v := fun {ad} {v} hv => by rw [HBR.out.cell (World.block_lt_of_cell? w _ hv)]; exact hv
      have d0 := keep c0
      have d1 := keep c1
      have d2 := keep c2
      have d3 := keep c3
      clear c0 c1 c2 c3 keep
      have HAR := Lib.hid (har.below HBR.out); clear har
      have hwt := wT_at ts k _ ht
      have HWX : Hid (wT (.node tk' tn tsn txs) ≤ 1048576) := Lib.hid (by have := HWT.out; omega)
      clear hwt
      have HTT := Lib.hid ht; clear ht
      have HSZ := Lib.hid hszn; clear hszn
      go_wp2_with fail
      refine (toT_of HSS.out tk' tn tsn u' txs _ HSZ.out HAR.out HWX.out).mono ?_
      rintro e w2 ⟨kk, nn, ss, u2, xx, rfl, he, hs2, ⟨ha2, ho2⟩, hb2⟩
      cases he
      have HR2 := Lib.hid (HR.out.below hb2 (by simp))
      have HB2 := Lib.hid (HBR.out.trans (hb2.mono HBR.out.size))
      have hs2' := hb2.size
      obtain ⟨⟨o0, g0⟩, f0⟩ := HR2.out.cells hlt 0 (by omega)
      obtain ⟨⟨o1, g1⟩, f1⟩ := HR2.out.cells hlt 1 (by omega)
      obtain ⟨⟨o2, g2⟩, f2⟩ := HR2.out.cells hlt 2 (by omega)
      obtain ⟨⟨o3, g3⟩, f3⟩ := HR2.out.cells hlt 3 (by omega)
      rw [Nat.add_zero] at g0 f0
      have ha3 : ArgsAt w2 (w.heap.size + 1) h u2 txs := ha2.low (by omega)
      obtain ⟨ua, uc, rfl⟩ := ha2.slice
      have HST := Lib.hid (HR2.out.step hlt HTT.out HSZ.out ha3 (ho2.wide (by simp) (Nat.le_refl _)) (by omega) (by omega)); clear ha2 ha3 hs2 hb2 ho2
      go_wp2
      go_roundw
      case rel => exact ⟨k + 1, by omega, by go_num, Lib.hid (by simpa using HST.out), Lib.hid ((((HB2.out.setCell (Nat.le_refl _) _).setCell (Nat.le_refl _) _).setCell (Nat.le_refl _) _).setCell (Nat.le_refl _) _), by simp; omega⟩
      case measure => simp [intOf]; omega
    · have hkn : k = n := by omega
      subst hkn
      have HD := Lib.hid (HR.out.done HN.out (by unfold maxLen; omega) hsr)
      go_wp2
      go_ret
      exact ⟨_, rfl, HD.out, HBR.out⟩

set_option maxRecDepth 100000 in
set_option maxHeartbeats 400000 in
theorem toS_empty (h : Nat) (a : Option Addr) (cap : Nat) (w : World) :
    Calls Try.prog 74 #[.slice a 0 cap] w (CopyS h [] w) := by
  obtain ⟨i0, hi, hz0, hz1, hz2⟩ := info_parts infoTerm
  have HI := Lib.hid hi; clear hi
  have HZ0 := Lib.hid hz0; clear hz0
  have HZ1 := Lib.hid hz1; clear hz1
  have HZ2 := Lib.hid hz2; clear hz2
  go_enter Try.func74, Try.ntmps74
  go_wp2_with (first | (at_make; refine wpList_make_full _ rfl (.tmp 6) (.tmp 6) 27 rfl w.heap.size 29 i0 (.agg #[.int .i64 0, .int .i64 0, .string ByteArray.empty, .slice none 0 0]) 4 Try.underlying27 HI.out HZ0.out HZ1.out _ _ _ _ 0 rfl rfl rfl rfl ?m1 ?m2 ?m3 ?_))
  case m1 => simp
  case m2 => decide
  case m3 => exact Nat.le_refl _
  intro w1 hown hgrow
  have hb : Below w.heap.size w w1 := (Below.refl _ _).grown hgrow (Nat.le_refl _) (fun k hk => by cases hk)
  clear hown hgrow
  go_wp2
  refine wp_loop_rounds 1 ?_
  rw [rounds_succ]
  go_wp2
  go_ret
  exact ⟨_, rfl, ⟨ArgsAt.nil _ _ _ _ _, OwnA.nil _ _ _ _ _ _⟩, hb⟩

theorem toS_any (lo : Nat) : ∀ h, CopySAt lo h
  | 0 => fun u ts w ha _ => by
    obtain ⟨rfl, a, cap, rfl⟩ := ha
    exact toS_empty 0 a cap w
  | h + 1 => fun u ts w ha hw => by
    rcases ha.cases with ⟨rfl, a, cap, rfl⟩ | ⟨h', b, o, cap, e, rfl, hl, _, hc⟩
    · exact toS_empty (h + 1) a cap w
    · obtain rfl : h = h' := by omega
      exact toS_some (toS_any lo h) b o cap ts w hw hc

/-- laws.toTerm, and whose its rows are. -/
theorem toT_own (v : Value) (t : T) (lo h : Nat) (w : World) (ht : TermAt w lo h v t) (hw : wT t ≤ 1048576) :
    Calls Try.prog 30 #[v] w (CopyTO h t w) := by
  obtain ⟨k, n, s, u, xs, rfl, rfl, hs, ha⟩ := ht
  exact toT_of (toS_any lo h) k n s u xs w hs ha hw

/-- laws.toTerm. -/
theorem toT_any (v : Value) (t : T) (lo h : Nat) (w : World) (ht : TermAt w lo h v t) (hw : wT t ≤ 1048576) :
    Calls Try.prog 30 #[v] w (CopyT h t w) :=
  (toT_own v t lo h w ht hw).mono fun _ _ c => c.copy
end Go.Proofs.Ytkgpkphacjjlgaa
namespace Go.Proofs.Ytkgpkphacjjlgaa
open Go.RowKit

/-- The slice value u holds the Binds bs, the rows below of a depth of at most h, in blocks from lo on. -/
def BsAt (w : World) (lo h : Nat) (u : Value) (bs : List (ByteArray × T)) : Prop :=
  ∃ a cap, u = .slice a bs.length cap ∧ bs.length ≤ maxLen ∧ (bs = [] ∨ ∃ b o, a = some ⟨b, o, none⟩ ∧ lo ≤ b ∧ ∀ i p k n s xs, bs[i]? = some (p, T.node k n s xs) → p.size ≤ maxLen ∧ s.size ≤ maxLen ∧ ∃ u', w.cell? ⟨b, o + i * 5, none⟩ = some (.string p) ∧
    w.cell? ⟨b, o + i * 5 + 1, none⟩ = some (.int .i64 k) ∧ w.cell? ⟨b, o + i * 5 + 2, none⟩ = some (.int .i64 n) ∧ w.cell? ⟨b, o + i * 5 + 3, none⟩ = some (.string s) ∧ w.cell? ⟨b, o + i * 5 + 4, none⟩ = some u' ∧ ArgsAt w lo h u' xs)
theorem BsAt.slice {w : World} {lo h : Nat} {u : Value} {bs : List (ByteArray × T)} (k : BsAt w lo h u bs) : ∃ a cap, u = .slice a bs.length cap := by
  obtain ⟨a, cap, e, _⟩ := k; exact ⟨a, cap, e⟩
theorem BsAt.len {w : World} {lo h : Nat} {u : Value} {bs : List (ByteArray × T)} (k : BsAt w lo h u bs) : bs.length ≤ maxLen := by
  obtain ⟨_, _, _, hl, _⟩ := k; exact hl
theorem BsAt.keep {w w' : World} {lo h : Nat} {u : Value} {bs : List (ByteArray × T)} (hk : ∀ (ad : Addr) v, lo ≤ ad.block → w.cell? ad = some v → w'.cell? ad = some v) (k : BsAt w lo h u bs) : BsAt w' lo h u bs := by
  obtain ⟨a, cap, e, hl, hc⟩ := k
  refine ⟨a, cap, e, hl, ?_⟩
  rcases hc with hc | ⟨b, o, ea, hb, hc⟩
  · exact Or.inl hc
  · refine Or.inr ⟨b, o, ea, hb, fun i p k n s xs hi => ?_⟩
    obtain ⟨hp, hs, u', c0, c1, c2, c3, c4, hr⟩ := hc i p k n s xs hi
    exact ⟨hp, hs, u', hk _ _ hb c0, hk _ _ hb c1, hk _ _ hb c2, hk _ _ hb c3, hk _ _ hb c4, hr.keep hk⟩
theorem BsAt.below {w w' : World} {lo h : Nat} {u : Value} {bs : List (ByteArray × T)} (k : BsAt w lo h u bs) (hb : Below w.heap.size w w') : BsAt w' lo h u bs :=
  k.keep fun ad v _ hv => by rw [hb.cell (World.block_lt_of_cell? w _ hv)]; exact hv
theorem BsAt.same {w w' : World} {lo h : Nat} {u : Value} {bs : List (ByteArray × T)} (k : BsAt w lo h u bs) (hs : Same lo w.heap.size w w') : BsAt w' lo h u bs :=
  k.keep fun ad v hlo hv => by
    have hl := World.block_lt_of_cell? w _ hv
    unfold World.cell? at *
    rw [hs ad.block hlo hl]; exact hv
theorem BsAt.kept {w : World} {lo h : Nat} {u : Value} {bs : List (ByteArray × T)} (k : BsAt w lo h u bs) : Kept lo w.heap.size (fun w' => BsAt w' lo h u bs) w := ⟨Nat.le_refl _, fun _ hs => k.same hs⟩
theorem BsAt.le {w : World} {lo h h' : Nat} {u : Value} {bs : List (ByteArray × T)} (k : BsAt w lo h u bs) (hle : h ≤ h') : BsAt w lo h' u bs := by
  obtain ⟨a, cap, e, hl, hc⟩ := k
  refine ⟨a, cap, e, hl, ?_⟩
  rcases hc with hc | ⟨b, o, ea, hb, hc⟩
  · exact Or.inl hc
  · refine Or.inr ⟨b, o, ea, hb, fun i p k n s xs hi => ?_⟩
    obtain ⟨hp, hs, u', c0, c1, c2, c3, c4, hr⟩ := hc i p k n s xs hi
    exact ⟨hp, hs, u', c0, c1, c2, c3, c4, hr.le hle⟩
theorem BsAt.low {w : World} {lo lo' h : Nat} {u : Value} {bs : List (ByteArray × T)} (k : BsAt w lo h u bs) (hlo : lo' ≤ lo) : BsAt w lo' h u bs := by
  obtain ⟨a, cap, e, hl, hc⟩ := k
  refine ⟨a, cap, e, hl, ?_⟩
  rcases hc with hc | ⟨b, o, ea, hb, hc⟩
  · exact Or.inl hc
  · refine Or.inr ⟨b, o, ea, Nat.le_trans hlo hb, fun i p k n s xs hi => ?_⟩
    obtain ⟨hp, hs, u', c0, c1, c2, c3, c4, hr⟩ := hc i p k n s xs hi
    exact ⟨hp, hs, u', c0, c1, c2, c3, c4, hr.low hlo⟩
/-- What a loop over the Binds sees. -/
theorem BsAt.at {w : World} {lo h : Nat} {u : Value} {bs : List (ByteArray × T)} (q : BsAt w lo h u bs) {i : Nat} {x : ByteArray × T} (hx : bs[i]? = some x) :
    ∃ b o cap p k n s xs u', u = .slice (some ⟨b, o, none⟩) bs.length cap ∧ x = (p, T.node k n s xs) ∧ lo ≤ b ∧ p.size ≤ maxLen ∧ s.size ≤ maxLen ∧ w.cell? ⟨b, o + i * 5, none⟩ = some (.string p) ∧
    w.cell? ⟨b, o + i * 5 + 1, none⟩ = some (.int .i64 k) ∧ w.cell? ⟨b, o + i * 5 + 2, none⟩ = some (.int .i64 n) ∧ w.cell? ⟨b, o + i * 5 + 3, none⟩ = some (.string s) ∧ w.cell? ⟨b, o + i * 5 + 4, none⟩ = some u' ∧ ArgsAt w lo h u' xs := by
  obtain ⟨a, cap, rfl, hl, hc⟩ := q
  obtain ⟨p, k, n, s, xs⟩ := x
  rcases hc with rfl | ⟨b, o, rfl, hb, hc⟩
  · simp at hx
  · obtain ⟨hp, hs, u', c0, c1, c2, c3, c4, hr⟩ := hc i p k n s xs hx
    exact ⟨b, o, cap, p, k, n, s, xs, u', rfl, rfl, hb, hp, hs, c0, c1, c2, c3, c4, hr⟩

/-- The Binds' row and the rows below are owned, lie in blocks from lo to hi, and lie apart. -/
def OwnBs (w : World) (h lo hi : Nat) (u : Value) (bs : List (ByteArray × T)) : Prop :=
  ∃ a cap, u = .slice a bs.length cap ∧ (bs = [] ∨ ∃ (g : Nat) (xs : List Value) (U : Nat → Value) (L R : Nat → Nat), a = some ⟨g, 0, none⟩ ∧ lo ≤ g ∧ g < hi ∧ w.ownsRow g 87 5 u bs.length xs ∧
    (∀ i p k n s txs, bs[i]? = some (p, T.node k n s txs) → xs[i * 5 + 4]? = some (U i) ∧ lo ≤ L i ∧ R i ≤ hi ∧ (g < L i ∨ R i ≤ g) ∧ OwnA w h (L i) (R i) (U i) txs) ∧
    (∀ i j, i < j → j < bs.length → R i ≤ L j ∨ R j ≤ L i))
theorem OwnBs.same {w w' : World} {h lo hi : Nat} {u : Value} {bs : List (ByteArray × T)} (k : OwnBs w h lo hi u bs) (hs : Same lo hi w w') : OwnBs w' h lo hi u bs := by
  obtain ⟨a, cap, e, hc⟩ := k
  refine ⟨a, cap, e, ?_⟩
  rcases hc with hc | ⟨g, xs, U, L, R, rfl, h1, h2, ho, hx, hd⟩
  · exact Or.inl hc
  · subst e
    refine Or.inr ⟨g, xs, U, L, R, rfl, h1, h2, row_keep ho (hs g h1 h2), fun i p k n s txs hi => ?_, hd⟩
    obtain ⟨x3, l1, l2, l3, hr⟩ := hx i p k n s txs hi
    exact ⟨x3, l1, l2, l3, hr.keep fun b b1 b2 => hs b (by omega) (by omega)⟩
theorem OwnBs.wide {w : World} {h lo hi lo' hi' : Nat} {u : Value} {bs : List (ByteArray × T)} (k : OwnBs w h lo hi u bs) (h1 : lo' ≤ lo) (h2 : hi ≤ hi') : OwnBs w h lo' hi' u bs := by
  obtain ⟨a, cap, e, hc⟩ := k
  refine ⟨a, cap, e, ?_⟩
  rcases hc with hc | ⟨g, xs, U, L, R, ea, g1, g2, ho, hx, hd⟩
  · exact Or.inl hc
  · refine Or.inr ⟨g, xs, U, L, R, ea, by omega, by omega, ho, fun i p k n s txs hi => ?_, hd⟩
    obtain ⟨x3, l1, l2, l3, hr⟩ := hx i p k n s txs hi
    exact ⟨x3, by omega, by omega, l3, hr⟩
/-- A list of Binds, its row and those below, in blocks from lo to hi. -/
def BsObj (lo hi h : Nat) (u : Value) (bs : List (ByteArray × T)) (w : World) : Prop := BsAt w lo h u bs ∧ OwnBs w h lo hi u bs
theorem BsObj.kept {lo h : Nat} {u : Value} {bs : List (ByteArray × T)} {w : World} (x : BsObj lo w.heap.size h u bs w) : Kept lo w.heap.size (BsObj lo w.heap.size h u bs) w :=
  ⟨Nat.le_refl _, fun _ hs => ⟨x.1.same hs, x.2.same hs⟩⟩

/-- How much the Binds hold. -/
def wBs (bs : List (ByteArray × T)) : Nat := bs.length + (bs.map fun x => x.1.size + wT x.2).sum
/-- How many marks they take. -/
def mBs (bs : List (ByteArray × T)) : Nat := (bs.map fun x => 1 + 3 * cT x.2).sum
theorem wBs_len (bs : List (ByteArray × T)) : bs.length ≤ wBs bs := Nat.le_add_right _ _
theorem mBs_le (bs : List (ByteArray × T)) : mBs bs ≤ 4 * wBs bs := by
  unfold mBs wBs
  induction bs with
  | nil => simp
  | cons x r ih =>
    have := cT_le x.2
    simp only [List.map_cons, List.sum_cons, List.length_cons] at *
    omega
theorem mBs_snoc (bs : List (ByteArray × T)) (x : ByteArray × T) : mBs (bs ++ [x]) = mBs bs + (1 + 3 * cT x.2) := by simp [mBs]
theorem wBs_snoc (bs : List (ByteArray × T)) (x : ByteArray × T) : wBs (bs ++ [x]) = wBs bs + (1 + x.1.size + wT x.2) := by simp [wBs]; omega
theorem mBs_take (bs : List (ByteArray × T)) (k : Nat) : mBs (bs.take k) ≤ mBs bs := by
  have h : mBs bs = mBs (bs.take k) + mBs (bs.drop k) := by
    unfold mBs
    rw [← List.sum_append, ← List.map_append, List.take_append_drop]
  omega
theorem wBs_take (bs : List (ByteArray × T)) (k : Nat) : wBs (bs.take k) ≤ wBs bs := by
  have h : wBs bs = wBs (bs.take k) + wBs (bs.drop k) := by
    have e := List.take_append_drop k bs
    conv => lhs; rw [← e]
    unfold wBs
    rw [List.map_append, List.sum_append, List.length_append]; omega
  omega
theorem wBs_mem {bs : List (ByteArray × T)} {k : Nat} {x : ByteArray × T} (h : bs[k]? = some x) : 1 + x.1.size + wT x.2 ≤ wBs bs := by
  have h1 := wBs_take bs (k + 1)
  rw [tk bs k x h, wBs_snoc] at h1
  omega
theorem len_mBs (bs : List (ByteArray × T)) : bs.length ≤ mBs bs := by
  unfold mBs
  induction bs with
  | nil => simp
  | cons x r ih => simp only [List.map_cons, List.sum_cons, List.length_cons] at *; omega
/-- The value of a Bind. -/
abbrev bv (p : ByteArray) (k n : Int) (s : ByteArray) (u : Value) : Value := .agg #[.string p, .int .i64 k, .int .i64 n, .string s, u]
end Go.Proofs.Ytkgpkphacjjlgaa
namespace Go.Proofs.Ytkgpkphacjjlgaa
open Go.RowKit

/-- The term of the first Bind of a name. -/
def findB (bs : List (ByteArray × T)) (nm : ByteArray) : Option T := (bs.find? (fun x => x.1.toList == nm.toList)).map Prod.snd
theorem findB_at {bs : List (ByteArray × T)} {nm : ByteArray} {k : Nat} {x : ByteArray × T} (hn : ∀ y ∈ bs.take k, (y.1.toList == nm.toList) = false) (hk : bs[k]? = some x) (hp : (x.1.toList == nm.toList) = true) : findB bs nm = some x.2 := by
  have e : bs = bs.take k ++ x :: bs.drop (k + 1) := by
    obtain ⟨_, h⟩ := List.getElem?_eq_some_iff.1 hk
    rw [← h, List.getElem_cons_drop, List.take_append_drop]
  unfold findB
  rw [e, List.find?_append, List.find?_eq_none.2 (fun y hy => by simpa using hn y hy)]
  simp [hp]
theorem findB_none {bs : List (ByteArray × T)} {nm : ByteArray} (hn : ∀ y ∈ bs, (y.1.toList == nm.toList) = false) : findB bs nm = none := by
  unfold findB
  rw [List.find?_eq_none.2 (fun y hy => by simpa using hn y hy)]; rfl
theorem findB_w {bs : List (ByteArray × T)} {nm : ByteArray} {t : T} (h : findB bs nm = some t) : wT t ≤ wBs bs := by
  unfold findB at h
  obtain ⟨x, hx, rfl⟩ := Option.map_eq_some_iff.1 h
  obtain ⟨k, hk⟩ := List.mem_iff_getElem?.1 (List.mem_of_find?_eq_some hx)
  have := wBs_mem hk
  omega

/-- Where the first Bind of a name stands. -/
def AtE (bs : List (ByteArray × T)) (nm : ByteArray) (w : World) (e : Ending) (w' : World) : Prop :=
  w' = w ∧ ((findB bs nm = none ∧ e = .returned (.int .i64 (-1))) ∨ ∃ (k : Nat) (x : ByteArray × T), e = .returned (.int .i64 k) ∧ bs[k]? = some x ∧ findB bs nm = some x.2)

set_option maxRecDepth 100000 in
set_option maxHeartbeats 1600000 in
theorem sAt7_any (u : Value) (nm : ByteArray) (bs : List (ByteArray × T)) (lo h : Nat) (w : World) (hl : bs.length ≤ 1048576) (hv : BsAt w lo h u bs) :
    Calls Try.prog 59 #[u, .string nm] w (AtE bs nm w) := by
  have HV := Lib.hid hv
  obtain ⟨a, cap, rfl⟩ := hv.slice
  clear hv
  obtain ⟨n, hn⟩ : ∃ n, n = bs.length := ⟨_, rfl⟩
  rw [← hn] at HV hl ⊢
  have HN := Lib.hid hn; clear hn
  go_enter Try.func59, Try.ntmps59
  go_wp2
  go_loop [5] (fun i => ∃ k : Nat, k ≤ n ∧ i = .int .i64 k ∧ Hid (∀ x ∈ bs.take k, (x.1.toList == nm.toList) = false)) (fun i => n - (intOf i).toNat)
  case atStart => exact ⟨0, Nat.zero_le _, rfl, Lib.hid (by simp)⟩
  case round =>
    obtain ⟨k, hk, rfl, HF⟩ := hrel
    by_cases hlt : k < n
    · obtain ⟨x, hx⟩ : ∃ x, bs[k]? = some x := ⟨_, List.getElem?_eq_getElem (by have := HN.out; omega)⟩
      obtain ⟨b, o, c', p, tk', tn, tsn, txs, u', e, rfl, _, _, _, c0, c1, c2, c3, c4, _⟩ := HV.out.at hx
      obtain ⟨rfl, -, rfl⟩ : a = some ⟨b, o, none⟩ ∧ n = bs.length ∧ cap = c' := by simpa using e
      have HX := Lib.hid hx; clear hx e
      by_cases hq : (p.toList == nm.toList) = true
      · have HE := Lib.hid (findB_at HF.out HX.out hq)
        go_wp2
        go_ret
        exact ⟨rfl, Or.inr ⟨k, _, rfl, HX.out, HE.out⟩⟩
      · have hq2 : (p.toList == nm.toList) = false := by simpa using hq
        clear hq
        have HF2 : Hid (∀ x ∈ bs.take (k + 1), (x.1.toList == nm.toList) = false) := Lib.hid (fun x hx => by
          rw [List.take_add_one, HX.out] at hx
          rcases List.mem_append.1 hx with h | h
          · exact HF.out x h
          · simp at h; subst h; exact hq2)
        go_wp2
        go_round
        case rel => exact ⟨k + 1, by omega, by go_num, HF2⟩
        case measure => simp [intOf]; omega
    · have HE : Hid (findB bs nm = none) := Lib.hid (findB_none (by
        have h := HF.out
        rw [List.take_of_length_le (by have := HN.out; omega)] at h
        exact h))
      go_wp2
      go_ret
      exact ⟨rfl, Or.inl ⟨HE.out, rfl⟩⟩

/-- An answer that is a term of a depth of at most h, and a word. -/
def ResTH (h : Nat) (ok : Bool) (r : T) (w : World) (e : Ending) (w' : World) : Prop :=
  ∃ k n s a m c, e = .returned (.tuple #[tv k n s (.slice a m c), .bool ok]) ∧ TermAt w' w.heap.size h (tv k n s (.slice a m c)) r ∧ Below w.heap.size w w'
theorem resT_fin {w wr : World} {b B : Nat} {ok : Bool} {k n : Int} {s : ByteArray} {a : Option Addr} {m c h : Nat} {r : T} (ht : TermAt wr B h (tv k n s (.slice a m c)) r) (hb : Below w.heap.size w wr) (h1 : w.heap.size ≤ b) (h2 : b < B) (v0 v1 v2 v3 : Value) :
    ResTH h ok r w (.returned (.tuple #[tv k n s (.slice a m c), .bool ok])) ((((wr.setCell ⟨b, 0, none⟩ v0).setCell ⟨b, 1, none⟩ v1).setCell ⟨b, 2, none⟩ v2).setCell ⟨b, 3, none⟩ v3) := by
  have st : ∀ (W : World) (j : Nat) (v : Value), TermAt W B h (tv k n s (.slice a m c)) r → TermAt (W.setCell ⟨b, j, none⟩ v) B h (tv k n s (.slice a m c)) r := fun W j v q => by
    obtain ⟨k, n, s, u, xs, e1, e2, hs, ha⟩ := q
    exact ⟨k, n, s, u, xs, e1, e2, hs, ha.grown (set_grown W b j v) (fun i e => by cases e; exact h2)⟩
  exact ⟨k, n, s, a, m, c, rfl, (st _ _ _ (st _ _ _ (st _ _ _ (st _ _ _ ht)))).low (by omega), (((hb.setCell h1 _).setCell h1 _).setCell h1 _).setCell h1 _⟩

set_option maxRecDepth 100000 in
set_option maxHeartbeats 1600000 in
theorem sFindB_anyH (u : Value) (nm : ByteArray) (bs : List (ByteArray × T)) (lo h : Nat) (w : World) (hw : wBs bs ≤ 1048576) (hv : BsAt w lo h u bs) :
    Calls Try.prog 37 #[u, .string nm] w (ResTH h (findB bs nm).isSome ((findB bs nm).getD zT) w) := by
  obtain ⟨W0, hW0⟩ : ∃ W0, W0 = w.alloc (.cells #[.int .i64 0, .int .i64 0, .string ⟨#[]⟩, .slice none 0 0] 29) := ⟨_, rfl⟩
  have hB0 : Below w.heap.size w W0 := by rw [hW0]; exact (Below.refl _ _).alloc (Nat.le_refl _) _
  have hs0 : W0.heap.size = w.heap.size + 1 := by rw [hW0]; simp
  have r0 : W0.heap[w.heap.size]? = some (trow 0 0 ByteArray.empty (.slice none 0 0)) := by rw [hW0]; exact heap_new _ _ rfl
  have hl : bs.length ≤ 1048576 := by have := wBs_len bs; omega
  have HV := Lib.hid (hv.below hB0)
  have HC := Lib.hid (sAt7_any u nm bs lo h W0 hl (hv.below hB0))
  obtain ⟨a, cap, rfl⟩ := hv.slice
  clear hv
  obtain ⟨n, hn⟩ : ∃ n, n = bs.length := ⟨_, rfl⟩
  rw [← hn] at HV hl HC ⊢
  have HN := Lib.hid hn; clear hn
  have HB0 := Lib.hid hB0; have HS0 := Lib.hid hs0; have HR0 := Lib.hid r0; have HW := Lib.hid hw
  clear hB0 hs0 r0 hw
  go_enter Try.func37, Try.ntmps37
  go_wp2_with fail
  rw [← hW0]
  clear hW0
  refine HC.out.mono ?_
  rintro e w1 ⟨rfl, hat⟩
  obtain ⟨⟨y0, y1, y2, y3⟩, f0, f1, f2, f3⟩ := cells_of4 HR0.out
  rcases hat with ⟨hno, rfl⟩ | ⟨k, x, rfl, hx, hyes⟩
  · have HF : Hid (∀ v0 v1 v2 v3, ResTH h (findB bs nm).isSome ((findB bs nm).getD zT) w (.returned (.tuple #[tv 0 0 ByteArray.empty (.slice none 0 0), .bool false])) ((((w1.setCell ⟨w.heap.size, 0, none⟩ v0).setCell ⟨w.heap.size, 1, none⟩ v1).setCell ⟨w.heap.size, 2, none⟩ v2).setCell ⟨w.heap.size, 3, none⟩ v3)) := Lib.hid (fun v0 v1 v2 v3 => by
      rw [hno]
      exact resT_fin (B := w.heap.size + 1) (h := h) (ok := false) ⟨_, _, _, _, [], rfl, rfl, by simp [maxLen], ArgsAt.nil _ _ _ _ _⟩ HB0.out (Nat.le_refl _) (Nat.lt_succ_self _) _ _ _ _)
    clear hno HC
    go_wp2
    (try simp only [Exit.inBlock, Exit.then])
    refine bodyPost_ret (v := .tuple #[tv 0 0 ByteArray.empty (.slice none 0 0), .bool false]) ?_ rfl ?_
    · refine results_ct (a := 4) (b := 5) (t := 29) (ad := ⟨w.heap.size, 0, none⟩) rfl rfl _ _ ?_
      go_simp
      try rfl
    · exact HF.out _ _ _ _
  · obtain ⟨b, o, c', p, tk', tn, tsn, txs, u', e, rfl, _, hps, hsz, c0, c1, c2, c3, c4, har⟩ := HV.out.at hx
    obtain ⟨rfl, -, rfl⟩ : a = some ⟨b, o, none⟩ ∧ n = bs.length ∧ cap = c' := by simpa using e
    have hkl : k < n := by have := (List.getElem?_eq_some_iff.1 hx).1; have := HN.out; omega
    have hwx := findB_w hyes
    have HCP := Lib.hid (lcopy_any h (tv tk' tn tsn u') (.node tk' tn tsn txs) lo w1 ⟨_, _, _, _, txs, rfl, rfl, hsz, har⟩ (by have := HW.out; simp only at hwx; omega))
    have HY := Lib.hid hyes
    clear hyes hwx hx e har HC
    go_wp2_with fail
    refine HCP.out.mono ?_
    rintro e w5 ⟨k5, n5, s5, a5, m5, c5, rfl, ht5, hb5⟩
    have q1 : w5.heap[w.heap.size]? = some (trow 0 0 ByteArray.empty (.slice none 0 0)) := (hb5.block _ (by have := HS0.out; omega)).trans HR0.out
    clear y0 y1 y2 y3 f0 f1 f2 f3
    obtain ⟨⟨y0, y1, y2, y3⟩, f0, f1, f2, f3⟩ := cells_of4 q1
    have HF : Hid (∀ v0 v1 v2 v3, ResTH h (findB bs nm).isSome ((findB bs nm).getD zT) w (.returned (.tuple #[tv k5 n5 s5 (.slice a5 m5 c5), .bool true])) ((((w5.setCell ⟨w.heap.size, 0, none⟩ v0).setCell ⟨w.heap.size, 1, none⟩ v1).setCell ⟨w.heap.size, 2, none⟩ v2).setCell ⟨w.heap.size, 3, none⟩ v3)) := Lib.hid (fun v0 v1 v2 v3 => by
      rw [HY.out]
      exact resT_fin (B := w1.heap.size) (ok := true) ht5 (HB0.out.trans (hb5.mono HB0.out.size)) (Nat.le_refl _) (by have := HS0.out; omega) _ _ _ _)
    clear c0 c1 c2 c3 c4 hsz hps ht5 hb5 q1
    go_wp2
    (try simp only [Exit.inBlock, Exit.then])
    refine bodyPost_ret (v := .tuple #[tv k5 n5 s5 (.slice a5 m5 c5), .bool true]) ?_ rfl ?_
    · refine results_ct (a := 4) (b := 5) (t := 29) (ad := ⟨w.heap.size, 0, none⟩) rfl rfl _ _ ?_
      go_simp
    · exact HF.out _ _ _ _
theorem sFindB_any (u : Value) (nm : ByteArray) (bs : List (ByteArray × T)) (lo h : Nat) (w : World) (hw : wBs bs ≤ 1048576) (hv : BsAt w lo h u bs) :
    Calls Try.prog 37 #[u, .string nm] w (ResT (findB bs nm).isSome ((findB bs nm).getD zT) w) :=
  (sFindB_anyH u nm bs lo h w hw hv).mono fun _ _ ⟨k, n, s, a, m, c, q⟩ => ⟨k, n, s, a, m, c, h, q⟩
end Go.Proofs.Ytkgpkphacjjlgaa
