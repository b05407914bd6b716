/- The tables of roots, and digests by them as texts. What the reference's Of wants of memory. -/
import Derived.Test.YtmbmkmigcmlodaaDoorDgHash
import Derived.Test.YtmbmkmigcmlodaaDoorRfForm
namespace Go.Proofs.YtmbmkmigcmlodaaDoor
open Go.RowKit

def sqL : List Int := [7640891576956012808, 13503953896175478587, 4354685564936845355, 11912009170470909681, 5840696475078001361, 11170449401992604703, 2270897969802886507, 6620516959819538809]
def cuL : List Int := [4794697086780616226, 8158064640168781261, 13096744586834688815, 16840607885511220156, 4131703408338449720, 6480981068601479193, 10538285296894168987, 12329834152419229976, 15566598209576043074, 1334009975649890238, 2608012711638119052, 6128411473006802146, 8268148722764581231, 9286055187155687089, 11230858885718282805, 13951009754708518548, 16472876342353939154, 17275323862435702243, 1135362057144423861, 2597628984639134821, 3308224258029322869, 5365058923640841347, 6679025012923562964, 8573033837759648693, 10970295158949994411, 12119686244451234320, 12683024718118986047, 13788192230050041572, 14330467153632333762, 15395433587784984357, 489312712824947311, 1452737877330783856, 2861767655752347644, 3322285676063803686, 5560940570517711597, 5996557281743188959, 7280758554555802590, 8532644243296465576, 9350256976987008742, 10552545826968843579, 11727347734174303076, 12113106623233404929, 14000437183269869457, 14369950271660146224, 15101387698204529176, 15463397548674623760, 17586052441742319658, 1182934255886127544, 1847814050463011016, 2177327727835720531, 2830643537854262169, 3796741975233480872, 4115178125766777443, 5681478168544905931, 6601373596472566643, 7507060721942968483, 8399075790359081724, 8693463985226723168, 9568029438360202098, 10144078919501101548, 10430055236837252648, 11840083180663258601, 13761210420658862357, 14299343276471374635, 14566680578165727644, 15097957966210449927, 16922976911328602910, 17689382322260857208, 500013540394364858, 748580250866718886, 1242879168328830382, 1977374033974150939, 2944078676154940804, 3659926193048069267, 4368137639120453308, 4836135668995329356, 5532061633213252278, 6448918945643986474, 6902733635092675308, 7801388544844847127]

def Tables (w : World) : Prop := 3 + 1 ≤ w.heap.size ∧ (∀ i, i < 8 → w.cell? ⟨1, i, none⟩ = some (.int .u64 (sqL.getD i 0))) ∧ ∀ i, i < 80 → w.cell? ⟨3, i, none⟩ = some (.int .u64 (cuL.getD i 0))
theorem Tables.below {w w' : World} (h : Tables w) {B : Nat} (hb : Below B w w') (hB : 3 + 1 ≤ B) : Tables w' := by
  obtain ⟨h1, h2, h3⟩ := h
  refine ⟨Nat.le_trans h1 hb.size, fun i hi => (hb.cell (p := ⟨1, i, none⟩) (by show 1 < B; omega)).trans (h2 i hi), fun i hi => (hb.cell (p := ⟨3, i, none⟩) (by show 3 < B; omega)).trans (h3 i hi)⟩
theorem tables_drewN {w : World} (h : Tables w) (n : Nat) : Tables (w.drewN n) := h
def digS (msg : List Int) : ByteArray := strOfNums (dig32 cuL sqL msg)
end Go.Proofs.YtmbmkmigcmlodaaDoor
namespace Go.Proofs.YtmbmkmigcmlodaaDoor
open Go.RowKit

/-- What Of hands out. -/
def OfPost (w : World) (bits st a b c d e f g h i j k l : Nat) (kd : IntKind) (en : Ending) (w' : World) : Prop :=
  ∃ gA gE gS gT gK gF cK cF, en = .returned (.agg #[.int .i64 (bits : Nat), .int .i64 (st : Nat), .slice (some ⟨gA, 0, none⟩) 3 3, .slice (some ⟨gE, 0, none⟩) 3 3, .slice (some ⟨gS, 0, none⟩) 3 3, .slice (some ⟨gT, 0, none⟩) 3 3, .slice (some ⟨gK, 0, none⟩) st cK, .slice (some ⟨gF, 0, none⟩) 8 cF]) ∧
    Below w.heap.size w w' ∧ ThreeAt w' gA a b c ∧ ThreeAt w' gE d e f ∧ ThreeAt w' gS g h i ∧ ThreeAt w' gT j k l ∧ st ≤ cK ∧ 8 ≤ cF ∧
    (∀ i, i < st → w'.cell? ⟨gK, i, none⟩ = some (.int .u64 (topK kd (cuL.getD i 0)))) ∧ ∀ i, i < 8 → w'.cell? ⟨gF, i, none⟩ = some (.int .u64 (topK kd (sqL.getD i 0)))
theorem ckn_grown {g0 : Nat} {w5 W W' : World} {row : Option Nat} (h : CKn g0 0 w5 W) (hg : W.grownBy W' row) (hr : ∀ g, row = some g → w5.heap.size ≤ g) : CKn g0 0 w5 W' := fun p v hp hc => by
  have h1 := World.block_lt_of_cell? _ _ hc
  have h2 := h p v hp hc
  exact (World.cell?_of_block (a := p) (hg.block p.block (World.block_lt_of_cell? _ _ h2) (fun e => by have := hr _ e.symm; omega))).trans h2
theorem ckn_set {g0 i : Nat} {w5 W : World} (h : CKn g0 0 w5 W) (v : Value) : CKn g0 0 w5 (W.setCell ⟨g0, i, none⟩ v) := fun p u hp hc => by
  refine (World.cell?_setCell_other _ _ _ _ (fun e => ?_)).trans (h p u hp hc)
  have := (hp (by rw [← e])).1
  omega
theorem own_set {W : World} {B n g : Nat} {v u : Value} {xs : List Value} {i : Nat} (h : W.ownsRow B 58 1 v n xs) (hne : v.ownBlock ≠ some g) : W.setCell ⟨g, i, none⟩ u |>.ownsRow B 58 1 v n xs :=
  h.kept (row := some g) ⟨rfl, rfl, rfl, by simp [World.setCell], fun k _ hk => heap_setCell_other _ _ k _ (fun e => hk (by rw [e]))⟩ (.inr hne)
theorem three_far {W : World} {g r a b c : Nat} (h : ThreeAt W g a b c) (hz : W.cell? ⟨r, 0, none⟩ = some (.int .i64 0)) (ha : a ≠ 0) : g ≠ r := fun e => by
  have h1 := h.1
  rw [e, hz] at h1
  injection h1 with h1
  injection h1 with _ h1
  omega
theorem tab_cell {W : World} {g : Nat} {l : List Int} (h : W.heap[g]? = some (.cells (l.map (Value.int .u64)).toArray 58 (0, 0))) {i : Nat} (hi : i < l.length) : W.cell? ⟨g, i, none⟩ = some (.int .u64 (l.getD i 0)) := by
  rw [cell_of_row W g i _ _ (0, 0) h, List.getElem?_toArray, List.getElem?_map, List.getD_eq_getElem?_getD, List.getElem?_eq_getElem hi]
  rfl
theorem all_range (l : List Int) (h : (l.all fun e => decide (0 ≤ e) && decide (e < 18446744073709551616)) = true) (i : Nat) : 0 ≤ l.getD i 0 ∧ l.getD i 0 < 18446744073709551616 := by
  rw [List.getD_eq_getElem?_getD]
  cases he : l[i]? with
  | none => exact ⟨by decide, by decide⟩
  | some e =>
    have := List.all_eq_true.1 h e (List.mem_of_getElem? he)
    simpa using this
theorem cu_range (i : Nat) : 0 ≤ cuL.getD i 0 ∧ cuL.getD i 0 < 18446744073709551616 := all_range cuL (by decide) i
theorem sq_range (i : Nat) : 0 ≤ sqL.getD i 0 ∧ sqL.getD i 0 < 18446744073709551616 := all_range sqL (by decide) i
end Go.Proofs.YtmbmkmigcmlodaaDoor
